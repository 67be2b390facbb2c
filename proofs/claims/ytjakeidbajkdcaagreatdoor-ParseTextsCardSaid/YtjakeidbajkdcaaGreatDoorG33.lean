/- Joined by program. -/
import Derived.Test.YtjakeidbajkdcaaGreatDoorG32
import Derived.Test.YtjakeidbajkdcaaGreatDoorG29
import Derived.OwnWalk
set_option maxRecDepth 100000
set_option maxHeartbeats 4000000
namespace Go.Proofs.YtjakeidbajkdcaaGreatDoor.L
open Go.RowKit
theorem zh4 {s : ByteArray} {i : Nat} (h : i < s.size) (hb : isB s[i].toNat = true) : nx s i = nx s (i + 1) := by
 rw [nx, M.zal s i h, zhv hb, nx]; omega
theorem zya {s : ByteArray} {i : Nat} (h : i < s.size) (hb : isB s[i].toNat = false) (h35 : s[i].toNat ≠ 35) : nx s i = i := by
 rw [nx, M.zal s i h, zua hb h35]; omega
def rx (s : ByteArray) (j : Nat) : Nat := j + gp true (s.data.toList.drop j)
theorem zqt {s : ByteArray} {i : Nat} (h : i < s.size) (h35 : s[i].toNat = 35) : nx s i = rx s i := by
 rw [nx, rx, M.zal s i h, znm h35, zrr (by omega)]
theorem zv2 {s : ByteArray} {j : Nat} (h : j < s.size) (h10 : s[j].toNat ≠ 10) : rx s j = rx s (j + 1) := by
 rw [rx, M.zal s j h, zrr h10, rx]; omega
theorem zut {s : ByteArray} {j : Nat} (h : j < s.size) (h10 : s[j].toNat = 10) : rx s j = nx s j := by
 rw [rx, nx, M.zal s j h, zt3 h10]
theorem zzf {s : ByteArray} {j : Nat} (h : s.size <= j) : rx s j = nx s j := by
 rw [rx, nx, List.drop_of_length_le (by rw [M.size_len]; exact h)]; rfl
theorem z1q {n : Nat} (h1 : n ≠ 32) (h2 : n ≠ 9) (h3 : n ≠ 10) : isB n = false := by simp only [isB, decide_eq_false_iff_not]; omega
theorem zmt (W : World) (o : Obj) (t : TypeId) (l : List Value) : ∀ (j : Nat) (u : Value), l[j]? = some u -> ((W.alloc o).alloc (.cells l.toArray t)).cell? ((⟨W.heap.size + 1, 0, none⟩ : Addr).add j) = some u := fun j u h => by
 have := zim (W.alloc o) t l j u h
 rwa [World.size_alloc] at this
theorem nen10 {a : Nat} (h : a = 10) : ((a : Int) != 10) = false := by simp [h]
theorem ne10 {a : Nat} (h : a ≠ 10) : ((a : Int) != 10) = true := by simp; omega
theorem zft {B : Nat} (s : ByteArray) (hs : s.size <= 1000000) (w : World) (hB : B <= w.heap.size) : Calls Tryz.prog 29 #[.string s] w (AllPost s B w) := by
 obtain ⟨i0, hi, hz0, hz1, hz2⟩ := info_parts tokInfo
 have hrow0 := World.ownsRow_made (base := B) (e := 63) (size := 4) w #[] 0 hB (by decide) rfl
 go_enter Tryz.func29, Tryz.ntmps29
 go_wp2
 go_loopw [5, 6] (fun v q wr => ∃ (pre : List Item) (i f g c : Nat), v = .slice (some ⟨g, 0, none⟩) pre.length c /\ q = .int .i64 (i : Int) /\ i <= s.size /\ Hid (s.size < nx s i + f) /\ Hid (items s = pre ++ its f s (nx s i)) /\ Hid (∀ x ∈ pre, x.1.e = 0) /\
   wr.ownsRow B 63 4 (.slice (some ⟨g, 0, none⟩) pre.length c) pre.length (cellsL pre) /\ Below B w wr)
  (fun _ q _ => s.size - (intOf q).toNat)
 case atStart => exact ⟨[], 0, s.size + 1, _, _, rfl, rfl, by omega, jj (by omega), jj rfl, jj (by simp), hrow0, (br B w).alloc hB _⟩
 case round =>
  obtain ⟨pre, i, f, g, c, rfl, rfl, hi1, HF, HI, HG, hrow, hBw⟩ := hrel
  have HR := jj hrow
  clear hrow
  by_cases hlt : i < s.size
  ·by_cases h32 : s[i].toNat = 32
   ·have hn := zh4 hlt (by rw [h32]; decide)
    rw [hn] at HF HI
    clear hn
    have q32 := eqb h32
    go_wp2
    go_roundw
    case rel => exact ⟨pre, i + 1, f, g, c, rfl, by go_num, by omega, HF, HI, HG, HR.out, hBw⟩
    case measure => simp [intOf]; omega
   ·by_cases h9 : s[i].toNat = 9
    ·have hn := zh4 hlt (by rw [h9]; decide)
     rw [hn] at HF HI
     clear hn
     have q32 : ((s[i].toNat : Int) == 32) = false := neb (b := 32) h32
     have q9 := eqb h9
     go_wp2
     go_roundw
     case rel => exact ⟨pre, i + 1, f, g, c, rfl, by go_num, by omega, HF, HI, HG, HR.out, hBw⟩
     case measure => simp [intOf]; omega
    ·by_cases h10 : s[i].toNat = 10
     ·have hn := zh4 hlt (by rw [h10]; decide)
      rw [hn] at HF HI
      clear hn
      have q32 : ((s[i].toNat : Int) == 32) = false := neb (b := 32) h32
      have q9 : ((s[i].toNat : Int) == 9) = false := neb (b := 9) h9
      have q10 := eqb h10
      go_wp2
      go_roundw
      case rel => exact ⟨pre, i + 1, f, g, c, rfl, by go_num, by omega, HF, HI, HG, HR.out, hBw⟩
      case measure => simp [intOf]; omega
     ·have hbl := z1q h32 h9 h10
      by_cases h35 : s[i].toNat = 35
      ·have hn := zqt hlt h35
       rw [hn] at HF HI
       clear hn hbl
       have q32 : ((s[i].toNat : Int) == 32) = false := neb (b := 32) h32
       have q9 : ((s[i].toNat : Int) == 9) = false := neb (b := 9) h9
       have q10 : ((s[i].toNat : Int) == 10) = false := neb (b := 10) h10
       have q35 := eqb h35
       go_wp2
       obtain ⟨wo, rfl⟩ : ∃ wo : World, wo = wr := ⟨_, rfl⟩
       have HI35 := jj h35
       clear q32 q9 q10 q35 h32 h9 h10 h35
       go_loop [6] (fun q => ∃ j : Nat, i <= j /\ j <= s.size /\ q = .int .i64 (j : Int) /\ Hid (rx s i = rx s j)) (fun q => s.size - (intOf q).toNat)
       case atStart => exact ⟨i, by omega, by omega, rfl, jj rfl⟩
       case round =>
        obtain ⟨j, hij, hj, rfl, HX⟩ := hrel
        by_cases hjl : j < s.size
        ·by_cases hj10 : s[j].toNat = 10
         ·have hne : i < j := by
           rcases Nat.lt_or_eq_of_le hij with h | h
           ·exact h
           ·subst h; have := HI35.out; omega
          have hx := zut hjl hj10
          rw [<- HX.out] at hx
          rw [hx] at HF HI
          clear hx
          have q10 := nen10 hj10
          go_wp2
          go_roundw
          case rel => exact ⟨pre, j, f, g, c, rfl, rfl, by omega, HF, HI, HG, HR.out, hBw⟩
          case measure => simp [intOf]; omega
         ·have HX' : Hid (rx s i = rx s (j + 1)) := jj (by rw [HX.out, zv2 hjl hj10])
          have q10 := ne10 hj10
          go_wp2
          go_round
          case rel => exact ⟨j + 1, by omega, by omega, by go_num, HX'⟩
          case measure => simp [intOf]; omega
        ·have hne : i < j := by omega
         have hx := zzf (s := s) (j := j) (by omega)
         rw [<- HX.out] at hx
         rw [hx] at HF HI
         clear hx
         go_wp2
         go_roundw
         case rel => exact ⟨pre, j, f, g, c, rfl, rfl, by omega, HF, HI, HG, HR.out, hBw⟩
         case measure => simp [intOf]; omega
      ·have hn := zya hlt hbl h35
       rw [hn] at HF HI
       clear hn hbl
       obtain ⟨x, hx⟩ : ∃ x, s.extract i s.size = x := ⟨_, rfl⟩
       obtain ⟨r, hr⟩ : ∃ r, tok x = r := ⟨_, rfl⟩
       have HO : Hid (∀ w1 : World, Calls Tryz.prog 56 #[.string s, .int .i64 (i : Int)] w1 (EP r.k r.t r.n (posOf r i) r.long r.e w1.heap.size w1)) := jj fun w1 => by
        have := zti (B := w1.heap.size) s x i (by omega) hlt hx w1 (lrf _)
        rwa [hr] at this
       have q32 : ((s[i].toNat : Int) == 32) = false := neb (b := 32) h32
       have q9 : ((s[i].toNat : Int) == 9) = false := neb (b := 9) h9
       have q10 : ((s[i].toNat : Int) == 10) = false := neb (b := 10) h10
       have q35 : ((s[i].toNat : Int) == 35) = false := neb (b := 35) h35
       unfold EP at HO
       by_cases he : r.e = 0
       ·obtain ⟨F', hF1, hF2⟩ := ztp (f := f) hlt HF.out (by rw [hx, hr]; exact he)
        rw [hx, hr] at hF1 hF2
        have hrl := zex s i hlt (by rw [hx, hr]; exact he)
        rw [hx, hr] at hrl
        have hit : items s = (pre ++ [(r, i)]) ++ its F' s (nx s (i + r.long)) := by rw [HI.out, hF2]; simp
        have HIT := jj hit
        have HFF := jj hF1
        have hlen : pre.length < 1000000 := by have := zf9 s; rw [hit] at this; simp at this; omega
        have HGG : Hid (∀ y ∈ pre ++ [(r, i)], y.1.e = 0) := jj fun y hy => by
         rcases List.mem_append.1 hy with h | h
         ·exact HG.out y h
         ·rw [List.mem_singleton.1 h]; exact he
        have HP : posOf r i = i := by rw [posOf, if_pos he]
        rw [he, HP] at HO
        obtain ⟨k, t, m, lg, e0⟩ := r
        obtain rfl : e0 = 0 := he
        have hBg : B <= g := by
         rcases HR.out.2 with ⟨h, _⟩ | ⟨g', cap, cur, h, hb, _⟩
         ·cases h
         ·cases h; exact hb
        have hwB := ltr hB hBw.size
        clear hit hF1 hF2 HP hr hx h32 h9 h10 h35 HF HI HG
        go_wp2_with (first | (go_at_call 56; refine (HO.out _).mono ?_; rintro e w1 ⟨rfl, hb1⟩; have HR1 := jj ((HR.out.kept (zei hb1 none) (.inr (by simp [Value.ownBlock]))).alloc (.cells #[.int .i64 k, .string t, .int .i64 m, .int .i64 (i : Int)] 63)); have hw1 := hb1.size; have HB1 := jj (((hBw.trans (hb1.mono hwB)).alloc (ltr hwB hw1) (.cells #[.int .i64 k, .string t, .int .i64 m, .int .i64 (i : Int)] 63)).alloc (by simp; omega) (.cells #[.int .i64 k, .string t, .int .i64 m, .int .i64 (i : Int)] 63)); have HN := jj (zmt w1 (.cells #[.int .i64 k, .string t, .int .i64 m, .int .i64 (i : Int)] 63) 63 (cellsOf1 (⟨k, t, m, lg, 0⟩, i))); clear hb1) | (at_builtin; refine wpList_append_own _ rfl _ _ 45 rfl B 63 i0 (.agg #[.int .i64 0, .string ⟨#[]⟩, .int .i64 0, .int .i64 0]) 4 40 Tryz.underlying45 hi hz0 hz1 hz2 rfl (by decide) _ _ _ rfl (HR1.out.alloc _) ⟨_, 0, none⟩ 1 1 (cellsOf1 (⟨k, t, m, lg, 0⟩, i)) rfl rfl HN.out (one1 _) (by unfold maxLen; omega) (by omega) (by simp; omega) ?_; intro v' w2 hown' hgrow _; obtain ⟨g', cap', rfl⟩ := ownsRow_succ hown'; have HO' := jj hown'; have HGR := jj hgrow; clear hown' hgrow))
        go_roundw
        case rel =>
         refine ⟨pre ++ [(⟨k, t, m, lg, 0⟩, i)], i + lg, F', g', cap', by rw [List.length_append, List.length_singleton], by go_num, hrl.2, HFF, HIT, HGG, ?_, HB1.out.grown HGR.out (by simp; omega) (fun b hb => by cases hb; exact hBg)⟩
         rw [zgu, List.length_append, List.length_singleton]; exact HO'.out
        case measure => simp [intOf]; omega
       ·have hit : items s = pre ++ (r, i) :: [] := by rw [HI.out, znj hlt HF.out (by rw [hx, hr]; exact he), hx, hr]
        obtain ⟨t1, t2, t3⟩ := zkw hit HG.out he
        have HT := jj t1
        have HT2 := jj t2
        have HT3 := jj t3
        have hne : (r.e != 0) = true := by simpa using he
        clear hit t1 t2 t3 he hr hx h32 h9 h10 h35
        go_wp2_with (go_at_call 56; refine (HO.out _).mono ?_; rintro e w1 ⟨rfl, hb1⟩)
        go_ret3
        exact ⟨_, by rw [HT2.out, HT3.out]; rfl, by rw [HT.out]; exact World.ownsRow_nil _ _ _ _, (hBw.trans (hb1.mono (ltr hB hBw.size))).alloc (ltr hB (ltr hBw.size hb1.size)) _⟩
  ·have hit : pre = items s := by rw [HI.out, znf (by have := zvo s i; omega), List.append_nil]
   obtain ⟨t1, t2, t3⟩ := zf3 hit HG.out
   have HT := jj t1
   have HT2 := jj t2
   have HT3 := jj t3
   clear t1 t2 t3 hit
   go_wp2
   go_ret3
   exact ⟨_, by rw [HT2.out, HT3.out]; rfl, by rw [HT.out]; exact HR.out, hBw⟩
open Go.RowKit
theorem zcq {W : World} {base : Nat} {e : TypeId} {size : Nat} {v : Value} {k : Nat} {xs : List Value} (h : W.ownsRow base e size v k xs) : ∃ A cap, v = .slice A k cap := by
 rcases h.2 with ⟨rfl, h0⟩ | ⟨g, cap, _, rfl, _⟩
 ·exact ⟨none, 0, by rw [h0]⟩
 ·exact ⟨_, _, rfl⟩
theorem zwh {W : World} {base : Nat} {e : TypeId} {size : Nat} {v : Value} {k : Nat} {xs : List Value} (h : W.ownsRow base e size v k xs) (hk : 0 < k) : ∃ g cap, v = .slice (some ⟨g, 0, none⟩) k cap := by
 obtain ⟨j, rfl⟩ : ∃ j, k = j + 1 := ⟨k - 1, by omega⟩
 exact ownsRow_succ h
def HoldsT (w : World) (g : Nat) (l : List Item) : Prop := ∀ j x, l[j]? = some x -> w.cell? ⟨g, j * 4, none⟩ = some (.int .i64 x.1.k) /\ w.cell? ⟨g, j * 4 + 1, none⟩ = some (.string x.1.t) /\ w.cell? ⟨g, j * 4 + 2, none⟩ = some (.int .i64 x.1.n) /\ w.cell? ⟨g, j * 4 + 3, none⟩ = some (.int .i64 (x.2 : Int))
theorem zig {W : World} {base : Nat} {l : List Item} {g cap : Nat} (h : W.ownsRow base 63 4 (.slice (some ⟨g, 0, none⟩) l.length cap) l.length (cellsL l)) : HoldsT W g l := fun j x hx => by
 obtain ⟨c0, c1, c2, c3⟩ := zlm l j x hx
 have a0 := World.ownsRow.cells h (g := g) rfl _ _ c0
 have a1 := World.ownsRow.cells h (g := g) rfl _ _ c1
 have a2 := World.ownsRow.cells h (g := g) rfl _ _ c2
 have a3 := World.ownsRow.cells h (g := g) rfl _ _ c3
 rw [Addr.add_lit, Nat.zero_add] at a0 a1 a2 a3
 exact ⟨a0, a1, a2, a3⟩
theorem zfl {W W' : World} {g : Nat} {l : List Item} (h : HoldsT W g l) (hb : Below W.heap.size W W') (hg : g < W.heap.size) : HoldsT W' g l := fun j x hx => by
 obtain ⟨a0, a1, a2, a3⟩ := h j x hx
 exact ⟨(hb.cell (p := ⟨g, _, none⟩) hg).trans a0, (hb.cell (p := ⟨g, _, none⟩) hg).trans a1, (hb.cell (p := ⟨g, _, none⟩) hg).trans a2, (hb.cell (p := ⟨g, _, none⟩) hg).trans a3⟩
theorem zyh {W : World} {base : Nat} {e : TypeId} {size k cap g : Nat} {xs : List Value} (h : W.ownsRow base e size (.slice (some ⟨g, 0, none⟩) k cap) k xs) : g < W.heap.size := by
 rcases h.2 with ⟨h, _⟩ | ⟨g', cap', cur, h, _, hh, _⟩
 ·cases h
 ·cases h; exact (age.1 hh).1
open Go.RowKit
theorem zlf (w : World) : Calls Tryz.prog 46 #[.pointer none] w fun e w' => e = .returned (.agg #[.int .i64 0, .string ⟨#[]⟩, .int .i64 0, .int .i64 0]) /\ Below w.heap.size w w' := by
 go_enter Tryz.func46, Tryz.ntmps46
 go_wp2
 exact bodyPost_ret (v := .agg #[.int .i64 0, .string ⟨#[]⟩, .int .i64 0, .int .i64 0]) (by simp [results, Tryz.results46, go_sem]) rfl ⟨rfl, baw w _⟩
theorem zlp (w : World) : Calls Tryz.prog 54 #[.pointer none] w fun e w' => e = .returned (.bool true) /\ w = w' := by
 go_enter Tryz.func54, Tryz.ntmps54
 go_wp2
 go_ret
 exact ⟨rfl, rfl⟩
theorem zr1 (w : World) : Calls Tryz.prog 125 #[.pointer none] w fun e w' => e = .returned (.agg #[.int .i64 0, .string ⟨#[]⟩, .int .i64 0, .int .i64 0]) /\ Below w.heap.size w w' := by
 go_enter Tryz.func125, Tryz.ntmps125
 go_wp2_with (first | (go_at_call 46; refine (zlf _).mono ?_; rintro e w1 ⟨rfl, hb1⟩; have hb := hb1.alloc hb1.size (.cells #[.int .i64 0, .string ⟨#[]⟩, .int .i64 0, .int .i64 0] 63); obtain ⟨hc, hf⟩ := bcell hb) | (go_at_call 54; refine (zlp _).mono ?_; rintro e w' ⟨rfl, rfl⟩))
 exact bodyPost_ret (v := .agg #[.int .i64 0, .string ⟨#[]⟩, .int .i64 0, .int .i64 0]) (by simp [results, Tryz.results125, go_sem, hc]) rfl ⟨rfl, below4 (lrf _) hb (by simp) _ _ _ _⟩
def Rd (W : World) (b : Nat) (A : Option Addr) (m c : Nat) (n : Int) : Prop := Blk W b #[.slice A m c, .int .i64 n] 82
theorem Rd.facts {W : World} {b : Nat} {A : Option Addr} {m c : Nat} {n : Int} (h : Rd W b A m c n) : W.cell? ⟨b, 0, none⟩ = some (.slice A m c) /\ W.cell? ⟨b, 1, none⟩ = some (.int .i64 n) /\ W.frozen? ⟨b, 0, none⟩ = false /\ b < W.heap.size :=
 ⟨(Blk.cell h 0).trans rfl, (Blk.cell h 1).trans rfl, by simp [World.frozen?, show W.heap[b]? = _ from h], Blk.lt h⟩
theorem zh1 (w : World) (b : Nat) (A : Option Addr) (c : Nat) (n : Int) (h : Rd w b A 0 c n) : Calls Tryz.prog 54 #[.pointer (some ⟨b, 0, none⟩)] w fun e w' => e = .returned (.bool true) /\ w = w' := by
 obtain ⟨h0, _, _, _⟩ := h.facts
 go_enter Tryz.func54, Tryz.ntmps54
 go_wp2
 go_ret
 exact ⟨rfl, rfl⟩
theorem zeh (w : World) (b : Nat) (A : Option Addr) (m c : Nat) (n : Int) (h : Rd w b A (m + 1) c n) : Calls Tryz.prog 54 #[.pointer (some ⟨b, 0, none⟩)] w fun e w' => e = .returned (.bool false) /\ w = w' := by
 obtain ⟨h0, _, _, _⟩ := h.facts
 go_enter Tryz.func54, Tryz.ntmps54
 go_wp2
 go_ret
 exact ⟨rfl, rfl⟩
theorem zkx (w : World) (b : Nat) (A : Option Addr) (c : Nat) (n : Int) (h : Rd w b A 0 c n) : Calls Tryz.prog 46 #[.pointer (some ⟨b, 0, none⟩)] w fun e w' => e = .returned (.agg #[.int .i64 0, .string ⟨#[]⟩, .int .i64 0, .int .i64 n]) /\ Below w.heap.size w w' := by
 obtain ⟨h0, h1, _, hlt⟩ := h.facts
 have HD := jj (fun w1 (hb : Below w.heap.size w w1) => zh1 w1 b A c n ((hb.block b hlt).trans h))
 clear h
 go_enter Tryz.func46, Tryz.ntmps46
 go_wp2_with (go_at_call 54; refine (HD.out _ (baw _ _)).mono ?_; rintro e w' ⟨rfl, rfl⟩)
 exact bodyPost_ret (v := .agg #[.int .i64 0, .string ⟨#[]⟩, .int .i64 0, .int .i64 n]) (by simp [results, Tryz.results46, go_sem]) rfl ⟨rfl, baw w _⟩
def At4 (W : World) (g o : Nat) (x : Item) : Prop := W.cell? ⟨g, o, none⟩ = some (.int .i64 x.1.k) /\ W.cell? ⟨g, o + 1, none⟩ = some (.string x.1.t) /\ W.cell? ⟨g, o + 2, none⟩ = some (.int .i64 x.1.n) /\ W.cell? ⟨g, o + 3, none⟩ = some (.int .i64 (x.2 : Int))
theorem At4.below {W W' : World} {g o : Nat} {x : Item} (h : At4 W g o x) (hb : Below W.heap.size W W') (hg : g < W.heap.size) : At4 W' g o x :=
 ⟨(hb.cell (p := ⟨g, _, none⟩) hg).trans h.1, (hb.cell (p := ⟨g, _, none⟩) hg).trans h.2.1, (hb.cell (p := ⟨g, _, none⟩) hg).trans h.2.2.1, (hb.cell (p := ⟨g, _, none⟩) hg).trans h.2.2.2⟩
theorem ze7 (w : World) (b g o m c : Nat) (n : Int) (x : Item) (h : Rd w b (some ⟨g, o, none⟩) (m + 1) c n) (hx : At4 w g o x) (hg : g < w.heap.size) :
  Calls Tryz.prog 46 #[.pointer (some ⟨b, 0, none⟩)] w fun e w' => e = .returned (.agg #[.int .i64 x.1.k, .string x.1.t, .int .i64 x.1.n, .int .i64 (x.2 : Int)]) /\ Below w.heap.size w w' := by
 obtain ⟨h0, h1, _, hlt⟩ := h.facts
 obtain ⟨x0, x1, x2, x3⟩ := hx
 have HD := jj (fun w1 (hb : Below w.heap.size w w1) => zeh w1 b (some ⟨g, o, none⟩) m c n ((hb.block b hlt).trans h))
 clear h
 go_enter Tryz.func46, Tryz.ntmps46
 go_wp2_with (go_at_call 54; refine (HD.out _ (baw _ _)).mono ?_; rintro e w' ⟨rfl, rfl⟩)
 exact bodyPost_ret (v := .agg #[.int .i64 x.1.k, .string x.1.t, .int .i64 x.1.n, .int .i64 (x.2 : Int)]) (by simp [results, Tryz.results46, go_sem]) rfl ⟨rfl, baw w _⟩
theorem zra (w : World) (b : Nat) (A : Option Addr) (c : Nat) (n : Int) (h : Rd w b A 0 c n) : Calls Tryz.prog 125 #[.pointer (some ⟨b, 0, none⟩)] w fun e w' => e = .returned (.agg #[.int .i64 0, .string ⟨#[]⟩, .int .i64 0, .int .i64 n]) /\ Below w.heap.size w w' := by
 obtain ⟨_, _, _, hlt⟩ := h.facts
 have HP := jj (fun w1 (hb : Below w.heap.size w w1) => zkx w1 b A c n ((hb.block b hlt).trans h))
 have HD := jj (fun w1 (hb : Below w.heap.size w w1) => zh1 w1 b A c n ((hb.block b hlt).trans h))
 clear h
 go_enter Tryz.func125, Tryz.ntmps125
 go_wp2_with (first | (go_at_call 46; refine (HP.out _ (baw _ _)).mono ?_; rintro e w1 ⟨rfl, hb1⟩; have hb := hb1.alloc hb1.size (.cells #[.int .i64 0, .string ⟨#[]⟩, .int .i64 0, .int .i64 n] 63); obtain ⟨hc, hf⟩ := bcell hb; have HB := jj (((br w.heap.size w).alloc (lrf _) (.cells #[.int .i64 0, .string ⟨#[]⟩, .int .i64 0, .int .i64 0] 63)).trans (hb.mono (by simp)))) | (go_at_call 54; refine (HD.out _ HB.out).mono ?_; rintro e w' ⟨rfl, rfl⟩))
 exact bodyPost_ret (v := .agg #[.int .i64 0, .string ⟨#[]⟩, .int .i64 0, .int .i64 n]) (by simp [results, Tryz.results125, go_sem, hc]) rfl ⟨rfl, below4 (lrf _) hb (by simp) _ _ _ _⟩
theorem oth (W : World) (b k : Nat) (h : k ≠ b) (v : Value) : (∀ j, (W.setCell ⟨b, 0, none⟩ v).cell? ⟨k, j, none⟩ = W.cell? ⟨k, j, none⟩) /\ (∀ j, (W.setCell ⟨b, 0, none⟩ v).frozen? ⟨k, j, none⟩ = W.frozen? ⟨k, j, none⟩) := by
 have hh : (W.setCell ⟨b, 0, none⟩ v).heap[k]? = W.heap[k]? := Below.heap_setCell _ _ _ k h
 exact ⟨fun j => World.cell?_of_block (a := ⟨k, j, none⟩) hh, fun j => World.frozen?_of_block (a := ⟨k, j, none⟩) hh⟩
theorem zkp {W : World} {b : Nat} {A A' : Option Addr} {m c m' c' : Nat} {n : Int} (h : Rd W b A m c n) : Rd (W.setCell ⟨b, 0, none⟩ (.slice A' m' c')) b A' m' c' n := by
 obtain ⟨hlt, hk⟩ := age.1 h
 show (W.heap.modify b _)[b]? = _
 rw [Array.getElem?_eq_getElem (by rw [Array.size_modify]; exact hlt), Array.getElem_modify_self, hk]
 rfl
theorem zhe {W : World} {b k : Nat} {A : Option Addr} {m c : Nat} {n : Int} (h : Rd W b A m c n) (hk : b ≠ k) (v0 v1 v2 v3 : Value) : Rd ((((W.setCell ⟨k, 0, none⟩ v0).setCell ⟨k, 1, none⟩ v1).setCell ⟨k, 2, none⟩ v2).setCell ⟨k, 3, none⟩ v3) b A m c n :=
 (Below.heap_setCell _ _ _ b hk).trans ((Below.heap_setCell _ _ _ b hk).trans ((Below.heap_setCell _ _ _ b hk).trans ((Below.heap_setCell _ _ _ b hk).trans h)))
theorem zmy (w : World) (b g o m c : Nat) (n : Int) (x : Item) (h : Rd w b (some ⟨g, o, none⟩) (m + 1) (c + 1) n) (hx : At4 w g o x) (hg : g < w.heap.size) (hm : m + 1 <= 1000000) (hc0 : 0 < c) :
  Calls Tryz.prog 125 #[.pointer (some ⟨b, 0, none⟩)] w fun e w' => e = .returned (.agg #[.int .i64 x.1.k, .string x.1.t, .int .i64 x.1.n, .int .i64 (x.2 : Int)]) /\ Below b w w' /\ Rd w' b (some ⟨g, o + 4, none⟩) m c n := by
 obtain ⟨h0, h1, hf0, hlt⟩ := h.facts
 have HP := jj (fun w1 (hb : Below w.heap.size w w1) => ze7 w1 b g o m (c + 1) n x ((hb.block b hlt).trans h) (hx.below hb hg) (lltl hg hb.size))
 have HD := jj (fun w1 (hb : Below w.heap.size w w1) => zeh w1 b (some ⟨g, o, none⟩) m (c + 1) n ((hb.block b hlt).trans h))
 have HRD := jj (fun w1 (hb : Below w.heap.size w w1) => (show Rd w1 b (some ⟨g, o, none⟩) (m + 1) (c + 1) n from (hb.block b hlt).trans h))
 clear h hx
 go_enter Tryz.func125, Tryz.ntmps125
 go_wp2_with (first | (go_at_call 46; refine (HP.out _ (baw _ _)).mono ?_; rintro e w1 ⟨rfl, hb1⟩; have hb := hb1.alloc hb1.size (.cells #[.int .i64 x.1.k, .string x.1.t, .int .i64 x.1.n, .int .i64 (x.2 : Int)] 63); obtain ⟨hc, hf⟩ := bcell hb; have HB := jj (((br w.heap.size w).alloc (lrf _) (.cells #[.int .i64 0, .string ⟨#[]⟩, .int .i64 0, .int .i64 0] 63)).trans (hb.mono (by simp))); obtain ⟨r0, r1, rf, rlt⟩ := (HRD.out _ HB.out).facts; have hz := hb1.size; simp at hz; obtain ⟨k1, j1⟩ := oth (w1.alloc (.cells #[.int .i64 x.1.k, .string x.1.t, .int .i64 x.1.n, .int .i64 (x.2 : Int)] 63)) b w1.heap.size (by omega) (.slice (some ⟨g, o + 4, none⟩) m c); obtain ⟨k2, j2⟩ := oth (w1.alloc (.cells #[.int .i64 x.1.k, .string x.1.t, .int .i64 x.1.n, .int .i64 (x.2 : Int)] 63)) b w.heap.size (by omega) (.slice (some ⟨g, o + 4, none⟩) m c)) | (go_at_call 54; refine (HD.out _ HB.out).mono ?_; rintro e w' ⟨rfl, rfl⟩))
 refine bodyPost_ret (v := .agg #[.int .i64 x.1.k, .string x.1.t, .int .i64 x.1.n, .int .i64 (x.2 : Int)]) (by simp [results, Tryz.results125, go_sem, hc, k2]) rfl ⟨rfl, ?_, zhe (zkp (HRD.out _ HB.out)) (by omega) _ _ _ _⟩
 have h1 := ((br b w).alloc (by omega) (.cells #[.int .i64 0, .string ⟨#[]⟩, .int .i64 0, .int .i64 0] 63)).trans (hb.mono (by simp; omega))
 exact ((((h1.setCell (p := ⟨b, 0, none⟩) (lrf _) _).setCell (p := ⟨w.heap.size, 0, none⟩) (by simp; omega) _).setCell (p := ⟨w.heap.size, 1, none⟩) (by simp; omega) _).setCell (p := ⟨w.heap.size, 2, none⟩) (by simp; omega) _).setCell (p := ⟨w.heap.size, 3, none⟩) (by simp; omega) _
theorem zjo (w : World) (b g o : Nat) (n : Int) (x : Item) (h : Rd w b (some ⟨g, o, none⟩) 1 1 n) (hx : At4 w g o x) (hg : g < w.heap.size) :
  Calls Tryz.prog 125 #[.pointer (some ⟨b, 0, none⟩)] w fun e w' => e = .returned (.agg #[.int .i64 x.1.k, .string x.1.t, .int .i64 x.1.n, .int .i64 (x.2 : Int)]) /\ Below b w w' /\ Rd w' b (some ⟨g, o, none⟩) 0 0 n := by
 obtain ⟨h0, h1, hf0, hlt⟩ := h.facts
 have HP := jj (fun w1 (hb : Below w.heap.size w w1) => ze7 w1 b g o 0 1 n x ((hb.block b hlt).trans h) (hx.below hb hg) (lltl hg hb.size))
 have HD := jj (fun w1 (hb : Below w.heap.size w w1) => zeh w1 b (some ⟨g, o, none⟩) 0 1 n ((hb.block b hlt).trans h))
 have HRD := jj (fun w1 (hb : Below w.heap.size w w1) => (show Rd w1 b (some ⟨g, o, none⟩) 1 1 n from (hb.block b hlt).trans h))
 clear h hx
 go_enter Tryz.func125, Tryz.ntmps125
 go_wp2_with (first | (go_at_call 46; refine (HP.out _ (baw _ _)).mono ?_; rintro e w1 ⟨rfl, hb1⟩; have hb := hb1.alloc hb1.size (.cells #[.int .i64 x.1.k, .string x.1.t, .int .i64 x.1.n, .int .i64 (x.2 : Int)] 63); obtain ⟨hc, hf⟩ := bcell hb; have HB := jj (((br w.heap.size w).alloc (lrf _) (.cells #[.int .i64 0, .string ⟨#[]⟩, .int .i64 0, .int .i64 0] 63)).trans (hb.mono (by simp))); obtain ⟨r0, r1, rf, rlt⟩ := (HRD.out _ HB.out).facts; have hz := hb1.size; simp at hz; obtain ⟨k1, j1⟩ := oth (w1.alloc (.cells #[.int .i64 x.1.k, .string x.1.t, .int .i64 x.1.n, .int .i64 (x.2 : Int)] 63)) b w1.heap.size (by omega) (.slice (some ⟨g, o, none⟩) 0 0); obtain ⟨k2, j2⟩ := oth (w1.alloc (.cells #[.int .i64 x.1.k, .string x.1.t, .int .i64 x.1.n, .int .i64 (x.2 : Int)] 63)) b w.heap.size (by omega) (.slice (some ⟨g, o, none⟩) 0 0)) | (go_at_call 54; refine (HD.out _ HB.out).mono ?_; rintro e w' ⟨rfl, rfl⟩))
 refine bodyPost_ret (v := .agg #[.int .i64 x.1.k, .string x.1.t, .int .i64 x.1.n, .int .i64 (x.2 : Int)]) (by simp [results, Tryz.results125, go_sem, hc, k2]) rfl ⟨rfl, ?_, zhe (zkp (HRD.out _ HB.out)) (by omega) _ _ _ _⟩
 have h1 := ((br b w).alloc (by omega) (.cells #[.int .i64 0, .string ⟨#[]⟩, .int .i64 0, .int .i64 0] 63)).trans (hb.mono (by simp; omega))
 exact ((((h1.setCell (p := ⟨b, 0, none⟩) (lrf _) _).setCell (p := ⟨w.heap.size, 0, none⟩) (by simp; omega) _).setCell (p := ⟨w.heap.size, 1, none⟩) (by simp; omega) _).setCell (p := ⟨w.heap.size, 2, none⟩) (by simp; omega) _).setCell (p := ⟨w.heap.size, 3, none⟩) (by simp; omega) _
end Go.Proofs.YtjakeidbajkdcaaGreatDoor.L
