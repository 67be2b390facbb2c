/- Joined by program. -/
import Derived.Test.YtjakeidbajkdcaaGreatDoorG25
import Derived.Deep.RegionWith
set_option maxRecDepth 100000
set_option maxHeartbeats 8000000
namespace Go.Proofs.YtjakeidbajkdcaaGreatDoor.Q
open Go.RowKit
theorem zhj (c : UInt8) (w : World) : Calls Tryz.prog 133 #[.int .u8 (c.toNat : Int)] w fun e w' => e = .returned (.int .i64 (hx c)) /\ w = w' := by
 have hlt := c.toNat_lt
 by_cases h1 : 48 <= c.toNat
 ·by_cases h2 : c.toNat <= 57
  ·have H : Hid (hx c = (c.toNat : Int) - 48) := by unfold Hid hx; rw [if_pos ⟨h1, h2⟩]
   have h1' : (48 : Int) <= c.toNat := by omega
   have h2' : (c.toNat : Int) <= 57 := by omega
   go_enter Tryz.func133, Tryz.ntmps133
   go_wp2
   go_ret
   exact ⟨by rw [H.out]; rfl, rfl⟩
  ·have h1' : (48 : Int) <= c.toNat := by omega
   have h2' : ¬ (c.toNat : Int) <= 57 := by omega
   by_cases h3 : 97 <= c.toNat
   ·by_cases h4 : c.toNat <= 102
    ·have H : Hid (hx c = (c.toNat : Int) - 87) := by unfold Hid hx; rw [if_neg (by omega), if_pos ⟨h3, h4⟩]
     have h3' : (97 : Int) <= c.toNat := by omega
     have h4' : (c.toNat : Int) <= 102 := by omega
     go_enter Tryz.func133, Tryz.ntmps133
     go_wp2
     go_ret
     exact ⟨by rw [H.out]; exact congrArg (fun n => Ending.returned (.int .i64 n)) (by omega), rfl⟩
    ·have H : Hid (hx c = -1) := by unfold Hid hx; rw [if_neg (by omega), if_neg (by omega)]
     have h3' : (97 : Int) <= c.toNat := by omega
     have h4' : ¬ (c.toNat : Int) <= 102 := by omega
     go_enter Tryz.func133, Tryz.ntmps133
     go_wp2
     go_ret
     exact ⟨by rw [H.out]; rfl, rfl⟩
   ·have H : Hid (hx c = -1) := by unfold Hid hx; rw [if_neg (by omega), if_neg (by omega)]
    have h3' : ¬ (97 : Int) <= c.toNat := by omega
    go_enter Tryz.func133, Tryz.ntmps133
    go_wp2
    go_ret
    exact ⟨by rw [H.out]; rfl, rfl⟩
 ·have H : Hid (hx c = -1) := by unfold Hid hx; rw [if_neg (by omega), if_neg (by omega)]
  have h1' : ¬ (48 : Int) <= c.toNat := by omega
  have h3' : ¬ (97 : Int) <= c.toNat := by omega
  go_enter Tryz.func133, Tryz.ntmps133
  go_wp2
  go_ret
  exact ⟨by rw [H.out]; rfl, rfl⟩
theorem zos {B : Nat} (s : ByteArray) (h : s.size < 2) (w : World) : Calls Tryz.prog 93 #[.string s] w (TkPost none B w) := by
 go_enter Tryz.func93, Tryz.ntmps93
 go_wp2
 go_ret3
 exact ⟨rfl, br _ _⟩
theorem zn7 {B : Nat} (s : ByteArray) (h : 2 <= s.size) (hs : s.size <= 140737488353000) (hq : ((s[0].toNat : Int) != 34) = true) (w : World) : Calls Tryz.prog 93 #[.string s] w (TkPost none B w) := by
 go_enter Tryz.func93, Tryz.ntmps93
 go_wp2
 go_ret3
 exact ⟨rfl, br _ _⟩
theorem ztb {acc : List UInt8} {n : Nat} (h : 200 < acc.length) : tT (some (acc, n)) = [] /\ tN (some (acc, n)) = 0 /\ tE (some (acc, n)) = 7 := by
 refine ⟨?_, ?_, ?_⟩
 ·rw [tT]; simp [h]
 ·rw [tN]; simp [h]
 ·rw [tE]; simp [h]
theorem zrk {acc : List UInt8} {n : Nat} (h : ¬ 200 < acc.length) : tT (some (acc, n)) = acc /\ tN (some (acc, n)) = n /\ tE (some (acc, n)) = 0 := by
 refine ⟨?_, ?_, ?_⟩
 ·rw [tT]; simp [h]
 ·rw [tN]; simp [h]
 ·rw [tE]; simp [h]
theorem zmn {B : Nat} (s : ByteArray) (hs : s.size <= 140737488353000) (h0 : 2 <= s.size) (hq : ((s[0].toNat : Int) != 34) = false) (w : World) (hB : B <= w.heap.size) :
  Calls Tryz.prog 93 #[.string s] w (TkPost (tkAt s.data.toList 1 []) B w) := by
 obtain ⟨o, ho⟩ : ∃ o, tkAt s.data.toList 1 [] = o := ⟨_, rfl⟩
 have HO : Going s o 1 [] := ho
 rw [ho]
 clear ho
 go_enter Tryz.func93, Tryz.ntmps93
 go_wp2
 go_loopw [5, 6] (fun v nx wr => ∃ (n : Nat) (acc : List UInt8), nx = .int .i64 n /\ n <= s.size /\ acc.length <= n /\ Row B wr v acc /\ Going s o n acc /\ Below B w wr) (fun _ nx _ => s.size - (intOf nx).toNat)
 case atStart => exact ⟨1, [], rfl, by omega, by simp, Row.empty _ hB, HO, (br _ _).alloc hB _⟩
 case round =>
  obtain ⟨n, acc, rfl, hn, hacc, hrow, hg, hbw⟩ := hrel
  have hz := hbw.size
  by_cases hlt : n < s.size
  ·by_cases h34 : s[n].toNat = 34
   ·have e34 := neq' h34
    by_cases hL : 200 < acc.length
    ·have HR : Hid (TkEnd o (.returned (.tuple #[.string ⟨#[]⟩, .int .i64 0, .int .i64 7]))) := by
      obtain ⟨r1, r2, r3⟩ := ztb (n := n + 1) hL
      rw [hg.quote hlt h34]; unfold Hid TkEnd; rw [r1, r2, r3]; rfl
     clear h34
     obtain ⟨A, c, rfl⟩ := hrow.form
     go_wp2_with fail
     go_ret3
     exact ⟨HR.out, hbw⟩
    ·have HR : Hid (TkEnd o (.returned (.tuple #[.string ⟨acc.toArray⟩, .int .i64 ((n : Int) + 1), .int .i64 0]))) := by
      obtain ⟨r1, r2, r3⟩ := zrk (n := n + 1) hL
      rw [hg.quote hlt h34]; unfold Hid TkEnd; rw [r1, r2, r3]; rfl
     clear h34
     have hcv := hrow.conv
     obtain ⟨A, c, rfl⟩ := hrow.form
     go_wp2_with fail
     go_ret3
     exact ⟨HR.out, hbw⟩
   have e34 := nne' h34
   by_cases h92 : s[n].toNat = 92
   ·have e92 := neq' h92
    have b1 : (32 : Int) <= s[n].toNat := by omega
    have b2 : (s[n].toNat : Int) <= 126 := by omega
    by_cases h1 : n + 1 < s.size
    ·have a1 : (n : Int) + 1 < s.size := by omega
     by_cases a34 : s[n + 1].toNat = 34
     ·have HS := hg.step hlt h34 (zql s n hlt h92 h1 (.inl a34)) (by omega)
      have x34 := eqb a34
      clear h34 h92 a34
      go_wp2_with (at_builtin; refine zbd (hrow.alloc _) [s[n + 1]] (heap_alloc_new _ _) (by simp; omega) (by simp; omega) rfl _ _ 1 rfl rfl rfl ?_; intro v1 w1 hr1 hb1)
      go_roundw
      case rel => exact ⟨n + 2, acc ++ [s[n + 1]], by go_num, by omega, by simp; omega, hr1, HS, (hbw.alloc (by omega) _).trans hb1⟩
      case measure => simp [intOf]; omega
     have x34 := neb a34
     by_cases a92 : s[n + 1].toNat = 92
     ·have HS := hg.step hlt h34 (zql s n hlt h92 h1 (.inr a92)) (by omega)
      have x92 := eqb a92
      clear h34 h92 a34 a92
      go_wp2_with (at_builtin; refine zbd (hrow.alloc _) [s[n + 1]] (heap_alloc_new _ _) (by simp; omega) (by simp; omega) rfl _ _ 1 rfl rfl rfl ?_; intro v1 w1 hr1 hb1)
      go_roundw
      case rel => exact ⟨n + 2, acc ++ [s[n + 1]], by go_num, by omega, by simp; omega, hr1, HS, (hbw.alloc (by omega) _).trans hb1⟩
      case measure => simp [intOf]; omega
     have x92 := neb a92
     by_cases a110 : s[n + 1].toNat = 110
     ·have HS := hg.step hlt h34 (zxr s n hlt h92 h1 a110) (by omega)
      have x110 := eqb a110
      clear h34 h92 a34 a92 a110
      go_wp2_with (at_builtin; refine zbd (hrow.alloc _) [10] (heap_alloc_new _ _) (by simp; omega) (by simp; omega) rfl _ _ 1 rfl rfl rfl ?_; intro v1 w1 hr1 hb1)
      go_roundw
      case rel => exact ⟨n + 2, acc ++ [10], by go_num, by omega, by simp; omega, hr1, HS, (hbw.alloc (by omega) _).trans hb1⟩
      case measure => simp [intOf]; omega
     have x110 := neb a110
     by_cases a116 : s[n + 1].toNat = 116
     ·have HS := hg.step hlt h34 (zzr s n hlt h92 h1 a116) (by omega)
      have x116 := eqb a116
      clear h34 h92 a34 a92 a110 a116
      go_wp2_with (at_builtin; refine zbd (hrow.alloc _) [9] (heap_alloc_new _ _) (by simp; omega) (by simp; omega) rfl _ _ 1 rfl rfl rfl ?_; intro v1 w1 hr1 hb1)
      go_roundw
      case rel => exact ⟨n + 2, acc ++ [9], by go_num, by omega, by simp; omega, hr1, HS, (hbw.alloc (by omega) _).trans hb1⟩
      case measure => simp [intOf]; omega
     have x116 := neb a116
     by_cases a120 : s[n + 1].toNat = 120
     ·have x120 := eqb a120
      by_cases h3 : n + 3 < s.size
      ·have h2 : n + 2 < s.size := by omega
       have a2 : (n : Int) + 2 < s.size := by omega
       have a3 : (n : Int) + 3 < s.size := by omega
       have u2 := zsf s[n + 2]
       have u3 := zsf s[n + 3]
       by_cases x : (0 : Int) <= hx s[n + 2]
       ·by_cases y : (0 : Int) <= hx s[n + 3]
        ·have HA := zwm s n hlt h92 h1 a120 h2 h3 x y
         obtain ⟨p, hp⟩ : ∃ p : Nat, hx s[n + 2] = p := ⟨(hx s[n + 2]).toNat, by omega⟩
         obtain ⟨q, hq⟩ : ∃ q : Nat, hx s[n + 3] = q := ⟨(hx s[n + 3]).toNat, by omega⟩
         obtain ⟨b, hb⟩ : ∃ b, UInt8.ofNat ((hx s[n + 2]).toNat * 16 + (hx s[n + 3]).toNat) = b := ⟨_, rfl⟩
         rw [hb] at HA
         rw [hp, hq] at hb
         rw [hp] at u2
         rw [hq] at u3
         have hbn : ((b.toNat : Nat) : Int) = 16 * (p : Int) + q := by rw [<- hb, UInt8.toNat_ofNat']; simp only [Int.toNat_natCast]; omega
         have HB : Hid (∀ w : World, (w.alloc (.cells #[.int .u8 (16 * (p : Int) + q)] 5)).heap[w.heap.size]? = some (.cells (bv [b]).toArray 5 (0, 0))) := fun w => by
          rw [<- hbn]; exact heap_alloc_new w _
         have HS := hg.step hlt h34 HA (by omega)
         have g2 : (0 : Int) <= (p : Int) := by omega
         have g3 : (0 : Int) <= (q : Int) := by omega
         have k1 : Hid (acc.length + [b].length <= 140737488355328) := by unfold Hid; simp; omega
         have k2 : Hid (∀ o : Obj, B <= (wr.drew.alloc o).heap.size) := fun o => by simp; omega
         have q1 : ((n : Int) + 3).toNat = n + 3 := by omega
         have q3 : ((n : Int) + 2).toNat = n + 2 := by omega
         have q2 : (0 : Int) <= (n : Int) + 3 := by omega
         have e1 : IntKind.i64.wrap ((n : Int) + 2 + 1) = (n : Int) + 3 := by rw [IntWalk.i64_in _ (by omega)]; omega
         have e2 : IntKind.i64.wrap (16 * (p : Int)) = 16 * (p : Int) := IntWalk.i64_in _ (by omega)
         have e3 : IntKind.i64.wrap (16 * (p : Int) + (q : Int)) = 16 * (p : Int) + (q : Int) := IntWalk.i64_in _ (by omega)
         have e4 : IntKind.u8.wrap (16 * (p : Int) + (q : Int)) = 16 * (p : Int) + (q : Int) := IntWalk.u8_in _ (by omega)
         clear hbn hb x y HA h34 h92 a34 a92 a110 a116 a120
         have E := jj (And.intro e1 (And.intro e2 (And.intro e3 e4)))
         clear e1 e2 e3 e4
         go_wp2_with (go_at_call 133; refine (zhj _ _).mono ?_; rintro e w' ⟨rfl, rfl⟩)
         obtain ⟨e1, e2, e3, e4⟩ := E.out
         go_region_law (first | (go_simp; go_at_call 133; refine (zhj _ _).mono ?_; rintro e w' ⟨rfl, rfl⟩) | (refine zk8 (hrow.drew.alloc _) [b] (HB.out wr.drew) k1.out (k2.out _) rfl _ _ 1 rfl rfl rfl ?_; intro v1 w1 hr1 hb1))
         all_goals clear e1 e2 e3 e4
         all_goals
          go_wp2
          go_roundw
          case rel => exact ⟨n + 4, acc ++ [b], by go_num, by omega, by simp; omega, hr1, HS, ((hbw.alloc (by omega) _).drew).trans hb1⟩
          case measure => simp [intOf]; omega
        ·have HN : Hid (TkEnd o (.returned (.tuple #[.string ⟨#[]⟩, .int .i64 0, .int .i64 5]))) := by rw [hg.bad hlt h34 (zxg s n hlt h92 h1 a120 h2 h3 y)]; rfl
         clear h34 h92 a34 a92 a110 a116 a120
         go_wp2_with (go_at_call 133; refine (zhj _ _).mono ?_; rintro e w' ⟨rfl, rfl⟩)
         go_ret3
         exact ⟨HN.out, hbw⟩
       ·have HN : Hid (TkEnd o (.returned (.tuple #[.string ⟨#[]⟩, .int .i64 0, .int .i64 5]))) := by rw [hg.bad hlt h34 (zxh s n hlt h92 h1 a120 h2 h3 x)]; rfl
        clear h34 h92 a34 a92 a110 a116 a120
        go_wp2_with (go_at_call 133; refine (zhj _ _).mono ?_; rintro e w' ⟨rfl, rfl⟩)
        go_ret3
        exact ⟨HN.out, hbw⟩
      ·have HN : Hid (TkEnd o (.returned (.tuple #[.string ⟨#[]⟩, .int .i64 0, .int .i64 5]))) := by rw [hg.bad hlt h34 (zp7 s n hlt h92 h1 a120 h3)]; rfl
       clear h34 h92 a34 a92 a110 a116 a120
       go_wp2_with fail
       go_ret3
       exact ⟨HN.out, hbw⟩
     ·have HN : Hid (TkEnd o (.returned (.tuple #[.string ⟨#[]⟩, .int .i64 0, .int .i64 5]))) := by rw [hg.bad hlt h34 (zw0 s n hlt h92 h1 a34 a92 a110 a116 a120)]; rfl
      have x120 := neb a120
      clear h34 h92 a34 a92 a110 a116 a120
      go_wp2_with fail
      go_ret3
      exact ⟨HN.out, hbw⟩
    ·have HN : Hid (TkEnd o (.returned (.tuple #[.string ⟨#[]⟩, .int .i64 0, .int .i64 5]))) := by rw [hg.bad hlt h34 (zrs s n hlt h92 h1)]; rfl
     clear h34 h92
     go_wp2_with fail
     go_ret3
     exact ⟨HN.out, hbw⟩
   ·have e92 := nne' h92
    by_cases hb : bare s[n]
    ·have b1 : (32 : Int) <= s[n].toNat := by have := hb.1; omega
     have b2 : (s[n].toNat : Int) <= 126 := by have := hb.2.1; omega
     have HS := hg.step hlt h34 (zv8 s n hlt hb) (by omega)
     clear h34 h92 hb
     go_wp2_with (at_builtin; refine zbd (hrow.alloc _) [s[n]] (heap_alloc_new _ _) (by simp; omega) (by simp; omega) rfl _ _ 1 rfl rfl rfl ?_; intro v1 w1 hr1 hb1)
     go_roundw
     case rel => exact ⟨n + 1, acc ++ [s[n]], by go_num, by omega, by simp; omega, hr1, HS, (hbw.alloc (by omega) _).trans hb1⟩
     case measure => simp [intOf]; omega
    ·have hb' : ¬ (32 <= s[n].toNat /\ s[n].toNat <= 126) := fun h => hb ⟨h.1, h.2, h34, h92⟩
     by_cases c1 : 32 <= s[n].toNat
     ·have b1 : (32 : Int) <= s[n].toNat := by omega
      have b2 : ¬ (s[n].toNat : Int) <= 126 := by omega
      have HN : Hid (TkEnd o (.returned (.tuple #[.string ⟨#[]⟩, .int .i64 0, .int .i64 5]))) := by rw [hg.bad hlt h34 (z0k s n hlt hb h92)]; rfl
      clear h34 h92 hb hb'
      go_wp2_with fail
      go_ret3
      exact ⟨HN.out, hbw⟩
     ·have b1 : ¬ (32 : Int) <= s[n].toNat := by omega
      have HN : Hid (TkEnd o (.returned (.tuple #[.string ⟨#[]⟩, .int .i64 0, .int .i64 5]))) := by rw [hg.bad hlt h34 (z0k s n hlt hb h92)]; rfl
      clear h34 h92 hb hb'
      go_wp2_with fail
      go_ret3
      exact ⟨HN.out, hbw⟩
  ·have HN : Hid (TkEnd o (.returned (.tuple #[.string ⟨#[]⟩, .int .i64 0, .int .i64 5]))) := by rw [hg.end_ (by omega)]; rfl
   go_wp2_with fail
   go_ret3
   exact ⟨HN.out, hbw⟩
theorem zqp {B : Nat} (s : ByteArray) (hs : s.size <= 140737488353000) (w : World) (hB : B <= w.heap.size) : Calls Tryz.prog 93 #[.string s] w (TkPost (tq s.data.toList) B w) := by
 by_cases h0 : 2 <= s.size
 ·have hd := zal s 0 (by omega)
  rw [List.drop_zero] at hd
  by_cases h34 : s[0].toNat = 34
  ·rw [show tq s.data.toList = tkAt s.data.toList 1 [] by rw [hd]; simp only [tq]; rw [if_pos h34]]
   exact zmn s hs h0 (neq' h34) w hB
  ·rw [show tq s.data.toList = none by rw [hd]; simp only [tq]; rw [if_neg h34]]
   exact zn7 s h0 hs (nne' h34) w
 ·have hn : tq s.data.toList = none := by
   have hl := size_len s
   rcases hx : s.data.toList with _ | ⟨c, _ | ⟨d, r⟩⟩
   ·rfl
   ·simp only [tq]
    split
    ·exact zn1 (by simp)
    ·rfl
   ·rw [hx] at hl; simp at hl; omega
  rw [hn]
  exact zos s (by omega) w
end Go.Proofs.YtjakeidbajkdcaaGreatDoor.Q
