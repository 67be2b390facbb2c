/- All, the document's: of every text its tokens, or the place and the error of the first one that has one; what lay below is as it was. -/
import Derived.Test.YtekbfgjlkmldgaaDoorLROneAny
import Derived.Test.YtekbfgjlkmldgaaDoorLAllP
import Derived.OwnWalk
namespace Go.Proofs.YtekbfgjlkmldgaaDoor.L
open Go.RowKit
theorem nx_blank {s : ByteArray} {i : Nat} (h : i < s.size) (hb : isB s[i].toNat = true) : nx s i = nx s (i + 1) := by
  rw [nx, M.drop_at s i h, gp_blank hb, nx]; omega
theorem nx_tok {s : ByteArray} {i : Nat} (h : i < s.size) (hb : isB s[i].toNat = false) (h35 : s[i].toNat ≠ 35) : nx s i = i := by
  rw [nx, M.drop_at s i h, gp_tok hb h35]; omega
/-- The place behind a remark. -/
def rx (s : ByteArray) (j : Nat) : Nat := j + gp true (s.data.toList.drop j)
theorem rx_start {s : ByteArray} {i : Nat} (h : i < s.size) (h35 : s[i].toNat = 35) : nx s i = rx s i := by
  rw [nx, rx, M.drop_at s i h, gp_hash h35, gp_in (by omega)]
theorem rx_step {s : ByteArray} {j : Nat} (h : j < s.size) (h10 : s[j].toNat ≠ 10) : rx s j = rx s (j + 1) := by
  rw [rx, M.drop_at s j h, gp_in h10, rx]; omega
theorem rx_line {s : ByteArray} {j : Nat} (h : j < s.size) (h10 : s[j].toNat = 10) : rx s j = nx s j := by
  rw [rx, nx, M.drop_at s j h, gp_out h10]
theorem rx_end {s : ByteArray} {j : Nat} (h : s.size ≤ j) : rx s j = nx s j := by
  rw [rx, nx, List.drop_of_length_le (by rw [M.size_len]; exact h)]; rfl
theorem isB_f {n : Nat} (h1 : n ≠ 32) (h2 : n ≠ 9) (h3 : n ≠ 10) : isB n = false := by simp only [isB, decide_eq_false_iff_not]; omega
theorem new_cells2 (W : World) (o : Obj) (t : TypeId) (l : List Value) : ∀ (j : Nat) (u : Value), l[j]? = some u → ((W.alloc o).alloc (.cells l.toArray t)).cell? ((⟨W.heap.size + 1, 0, none⟩ : Addr).add j) = some u := fun j u h => by
  have := new_cells (W.alloc o) t l j u h
  rwa [World.size_alloc] at this
theorem nen10 {a : Nat} (h : a = 10) : ((a : Int) != 10) = false := by simp [h]
theorem ne10 {a : Nat} (h : a ≠ 10) : ((a : Int) != 10) = true := by simp; omega
set_option maxRecDepth 100000 in
set_option maxHeartbeats 4000000 in
theorem rall_any {B : Nat} (s : ByteArray) (hs : s.size ≤ 1000000) (w : World) (hB : B ≤ w.heap.size) : Calls Tryd.prog 7 #[.string s] w (AllPost s B w) := by
  obtain ⟨i0, hi, hz0, hz1, hz2⟩ := info_parts tokInfo
  have hrow0 := World.ownsRow_made (base := B) (e := 28) (size := 4) w #[] 0 hB (by decide) rfl
  go_enter Tryd.func7, Tryd.ntmps7
  go_wp2
  go_loopw [5, 6] (fun v q wr => ∃ (pre : List Item) (i f g c : Nat), v = .slice (some ⟨g, 0, none⟩) pre.length c ∧ q = .int .i64 (i : Int) ∧ i ≤ s.size ∧ Hid (s.size < nx s i + f) ∧ Hid (items s = pre ++ its f s (nx s i)) ∧ Hid (∀ x ∈ pre, x.1.e = 0) ∧
      wr.ownsRow B 28 4 (.slice (some ⟨g, 0, none⟩) pre.length c) pre.length (cellsL pre) ∧ Below B w wr)
    (fun _ q _ => s.size - (intOf q).toNat)
  case atStart => exact ⟨[], 0, s.size + 1, _, _, rfl, rfl, by omega, Lib.hid (by omega), Lib.hid rfl, Lib.hid (by simp), hrow0, (Below.refl B w).alloc hB _⟩
  case round =>
    obtain ⟨pre, i, f, g, c, rfl, rfl, hi1, HF, HI, HG, hrow, hBw⟩ := hrel
    have HR := Lib.hid hrow
    clear hrow
    by_cases hlt : i < s.size
    · by_cases h32 : s[i].toNat = 32
      · have hn := nx_blank hlt (by rw [h32]; decide)
        rw [hn] at HF HI
        clear hn
        have q32 := eqb h32
        go_wp2
        go_roundw
        case rel => exact ⟨pre, i + 1, f, g, c, rfl, by go_num, by omega, HF, HI, HG, HR.out, hBw⟩
        case measure => simp [intOf]; omega
      · by_cases h9 : s[i].toNat = 9
        · have hn := nx_blank hlt (by rw [h9]; decide)
          rw [hn] at HF HI
          clear hn
          have q32 : ((s[i].toNat : Int) == 32) = false := neb (b := 32) h32
          have q9 := eqb h9
          go_wp2
          go_roundw
          case rel => exact ⟨pre, i + 1, f, g, c, rfl, by go_num, by omega, HF, HI, HG, HR.out, hBw⟩
          case measure => simp [intOf]; omega
        · by_cases h10 : s[i].toNat = 10
          · have hn := nx_blank hlt (by rw [h10]; decide)
            rw [hn] at HF HI
            clear hn
            have q32 : ((s[i].toNat : Int) == 32) = false := neb (b := 32) h32
            have q9 : ((s[i].toNat : Int) == 9) = false := neb (b := 9) h9
            have q10 := eqb h10
            go_wp2
            go_roundw
            case rel => exact ⟨pre, i + 1, f, g, c, rfl, by go_num, by omega, HF, HI, HG, HR.out, hBw⟩
            case measure => simp [intOf]; omega
          · have hbl := isB_f h32 h9 h10
            by_cases h35 : s[i].toNat = 35
            · have hn := rx_start hlt h35
              rw [hn] at HF HI
              clear hn hbl
              have q32 : ((s[i].toNat : Int) == 32) = false := neb (b := 32) h32
              have q9 : ((s[i].toNat : Int) == 9) = false := neb (b := 9) h9
              have q10 : ((s[i].toNat : Int) == 10) = false := neb (b := 10) h10
              have q35 := eqb h35
              go_wp2
              obtain ⟨wo, rfl⟩ : ∃ wo : World, wo = wr := ⟨_, rfl⟩
              have HI35 := Lib.hid h35
              clear q32 q9 q10 q35 h32 h9 h10 h35
              go_loop [6] (fun q => ∃ j : Nat, i ≤ j ∧ j ≤ s.size ∧ q = .int .i64 (j : Int) ∧ Hid (rx s i = rx s j)) (fun q => s.size - (intOf q).toNat)
              case atStart => exact ⟨i, by omega, by omega, rfl, Lib.hid rfl⟩
              case round =>
                obtain ⟨j, hij, hj, rfl, HX⟩ := hrel
                by_cases hjl : j < s.size
                · by_cases hj10 : s[j].toNat = 10
                  · have hne : i < j := by
                      rcases Nat.lt_or_eq_of_le hij with h | h
                      · exact h
                      · subst h; have := HI35.out; omega
                    have hx := rx_line hjl hj10
                    rw [← HX.out] at hx
                    rw [hx] at HF HI
                    clear hx
                    have q10 := nen10 hj10
                    go_wp2
                    go_roundw
                    case rel => exact ⟨pre, j, f, g, c, rfl, rfl, by omega, HF, HI, HG, HR.out, hBw⟩
                    case measure => simp [intOf]; omega
                  · have HX' : Hid (rx s i = rx s (j + 1)) := Lib.hid (by rw [HX.out, rx_step hjl hj10])
                    have q10 := ne10 hj10
                    go_wp2
                    go_round
                    case rel => exact ⟨j + 1, by omega, by omega, by go_num, HX'⟩
                    case measure => simp [intOf]; omega
                · have hne : i < j := by omega
                  have hx := rx_end (s := s) (j := j) (by omega)
                  rw [← HX.out] at hx
                  rw [hx] at HF HI
                  clear hx
                  go_wp2
                  go_roundw
                  case rel => exact ⟨pre, j, f, g, c, rfl, rfl, by omega, HF, HI, HG, HR.out, hBw⟩
                  case measure => simp [intOf]; omega
            · have hn := nx_tok hlt hbl h35
              rw [hn] at HF HI
              clear hn hbl
              obtain ⟨x, hx⟩ : ∃ x, s.extract i s.size = x := ⟨_, rfl⟩
              obtain ⟨r, hr⟩ : ∃ r, tok x = r := ⟨_, rfl⟩
              have HO : Hid (∀ w1 : World, Calls Tryd.prog 16 #[.string s, .int .i64 (i : Int)] w1 (EP r.k r.t r.n (posOf r i) r.long r.e w1.heap.size w1)) := Lib.hid fun w1 => by
                have := rone_any (B := w1.heap.size) s x i (by omega) hlt hx w1 (Nat.le_refl _)
                rwa [hr] at this
              have q32 : ((s[i].toNat : Int) == 32) = false := neb (b := 32) h32
              have q9 : ((s[i].toNat : Int) == 9) = false := neb (b := 9) h9
              have q10 : ((s[i].toNat : Int) == 10) = false := neb (b := 10) h10
              have q35 : ((s[i].toNat : Int) == 35) = false := neb (b := 35) h35
              unfold EP at HO
              by_cases he : r.e = 0
              · obtain ⟨F', hF1, hF2⟩ := its_ok (f := f) hlt HF.out (by rw [hx, hr]; exact he)
                rw [hx, hr] at hF1 hF2
                have hrl := rest_long s i hlt (by rw [hx, hr]; exact he)
                rw [hx, hr] at hrl
                have hit : items s = (pre ++ [(r, i)]) ++ its F' s (nx s (i + r.long)) := by rw [HI.out, hF2]; simp
                have HIT := Lib.hid hit
                have HFF := Lib.hid hF1
                have hlen : pre.length < 1000000 := by have := items_len s; rw [hit] at this; simp at this; omega
                have HGG : Hid (∀ y ∈ pre ++ [(r, i)], y.1.e = 0) := Lib.hid fun y hy => by
                  rcases List.mem_append.1 hy with h | h
                  · exact HG.out y h
                  · rw [List.mem_singleton.1 h]; exact he
                have HP : posOf r i = i := by rw [posOf, if_pos he]
                rw [he, HP] at HO
                obtain ⟨k, t, m, lg, e0⟩ := r
                obtain rfl : e0 = 0 := he
                have hBg : B ≤ g := by
                  rcases HR.out.2 with ⟨h, _⟩ | ⟨g', cap, cur, h, hb, _⟩
                  · cases h
                  · cases h; exact hb
                have hwB := Nat.le_trans hB hBw.size
                clear hit hF1 hF2 HP hr hx h32 h9 h10 h35 HF HI HG
                go_wp2_with (first
                  | (go_at_call 16; refine (HO.out _).mono ?_; rintro e w1 ⟨rfl, hb1⟩; have HR1 := Lib.hid ((HR.out.kept (grown_below hb1 none) (.inr (by simp [Value.ownBlock]))).alloc (.cells #[.int .i64 k, .string t, .int .i64 m, .int .i64 (i : Int)] 28)); have hw1 := hb1.size; have HB1 := Lib.hid (((hBw.trans (hb1.mono hwB)).alloc (Nat.le_trans hwB hw1) (.cells #[.int .i64 k, .string t, .int .i64 m, .int .i64 (i : Int)] 28)).alloc (by simp; omega) (.cells #[.int .i64 k, .string t, .int .i64 m, .int .i64 (i : Int)] 28)); have HN := Lib.hid (new_cells2 w1 (.cells #[.int .i64 k, .string t, .int .i64 m, .int .i64 (i : Int)] 28) 28 (cellsOf1 (⟨k, t, m, lg, 0⟩, i))); clear hb1)
                  | (at_builtin; refine wpList_append_own _ rfl _ _ 23 rfl B 28 i0 (.agg #[.int .i64 0, .string ⟨#[]⟩, .int .i64 0, .int .i64 0]) 4 40 Tryd.underlying23 hi hz0 hz1 hz2 rfl (by decide) _ _ _ rfl (HR1.out.alloc _) ⟨_, 0, none⟩ 1 1 (cellsOf1 (⟨k, t, m, lg, 0⟩, i)) rfl rfl HN.out (one1 _) (by unfold maxLen; omega) (by omega) (by simp; omega) ?_; intro v' w2 hown' hgrow _; obtain ⟨g', cap', rfl⟩ := ownsRow_succ hown'; have HO' := Lib.hid hown'; have HGR := Lib.hid hgrow; clear hown' hgrow))
                go_roundw
                case rel =>
                  refine ⟨pre ++ [(⟨k, t, m, lg, 0⟩, i)], i + lg, F', g', cap', by rw [List.length_append, List.length_singleton], by go_num, hrl.2, HFF, HIT, HGG, ?_, HB1.out.grown HGR.out (by simp; omega) (fun b hb => by cases hb; exact hBg)⟩
                  rw [cells_snoc, List.length_append, List.length_singleton]; exact HO'.out
                case measure => simp [intOf]; omega
              · have hit : items s = pre ++ (r, i) :: [] := by rw [HI.out, its_bad hlt HF.out (by rw [hx, hr]; exact he), hx, hr]
                obtain ⟨t1, t2, t3⟩ := is_wrong hit HG.out he
                have HT := Lib.hid t1
                have HT2 := Lib.hid t2
                have HT3 := Lib.hid t3
                have hne : (r.e != 0) = true := by simpa using he
                clear hit t1 t2 t3 he hr hx h32 h9 h10 h35
                go_wp2_with (go_at_call 16; refine (HO.out _).mono ?_; rintro e w1 ⟨rfl, hb1⟩)
                go_ret3
                exact ⟨_, by rw [HT2.out, HT3.out]; rfl, by rw [HT.out]; exact World.ownsRow_nil _ _ _ _, (hBw.trans (hb1.mono (Nat.le_trans hB hBw.size))).alloc (Nat.le_trans hB (Nat.le_trans hBw.size hb1.size)) _⟩
    · have hit : pre = items s := by rw [HI.out, its_end (by have := nx_ge s i; omega), List.append_nil]
      obtain ⟨t1, t2, t3⟩ := no_wrong hit HG.out
      have HT := Lib.hid t1
      have HT2 := Lib.hid t2
      have HT3 := Lib.hid t3
      clear t1 t2 t3 hit
      go_wp2
      go_ret3
      exact ⟨_, by rw [HT2.out, HT3.out]; rfl, by rw [HT.out]; exact HR.out, hBw⟩
end Go.Proofs.YtekbfgjlkmldgaaDoor.L
