/- Joined by program. -/
import Derived.Test.YtjakeidbajkdcaaGreatDoorG34
import Derived.Test.YtjakeidbajkdcaaGreatDoorG10
import Derived.Test.YtjakeidbajkdcaaGreatDoorG18
import Derived.Test.YtjakeidbajkdcaaGreatDoorG19
import Derived.Deep.RegionLaw
set_option maxRecDepth 100000
set_option maxHeartbeats 4000000
namespace Go.Proofs.YtjakeidbajkdcaaGreatDoor.A
open T Go.RowKit
attribute [local go_sem] zat zau zas
section
variable {Av : Nat -> Prop} {B rb b : Nat} {w w' : World} {s : PS} {p : Option Addr} {v : Value}
theorem St.pksz (h : St Av B rb b w s) : s.pk.s.size <= 281474976710656 := by
 obtain ⟨p, v, _, hR⟩ := h.rb_
 rw [zzl]
 rcases hR with ⟨_, _, h1, _⟩ | ⟨_, _, A, c, _, _, h3, _⟩
 ·rw [h1]; exact Nat.zero_le _
 ·cases hl : s.l with
  | nil => exact Nat.zero_le _
  | cons t l => exact h3.2 t (by rw [hl]; simp)
theorem Rb.below (h : Rb w rb p v s) (hb : Below w.heap.size w w') : Rb w' rb p v s := (hb.block rb (age.1 h).1).trans h
theorem zb3 (h : St Av B rb b w s) (k : Int) : Calls Tryz.prog 82 #[.pointer (some ⟨rb, 0, none⟩), .int .i64 k] w (SPost Av B rb b w (s.txt k).1 (s.txt k).2) := by
 obtain ⟨p, v, hp, hR⟩ := h.rb_
 obtain ⟨c0, c1, c2, c3, c4⟩ := hp.cells
 have hlt := h.rlt
 have HPK := jj (zbm h hp)
 have HP := jj hp
 have H := jj h
 have HS := jj h.pksz
 clear h hp hR
 by_cases hk : s.pk.k = k
 ·have e1 : s.txt k = (s.pk.s, s.nx) := by unfold PS.txt; rw [if_pos hk]
  rw [e1]
  clear e1
  have hk' : (s.pk.k != k) = false := by simpa using hk
  clear hk
  go_enter Tryz.func82, Tryz.ntmps82
  go_wp2_with (first | (go_at_call 46; refine HPK.out.mono ?_; rintro e w1 ⟨rfl, hb1⟩; have hb := hb1.alloc hb1.size (.cells #[.int .i64 s.pk.k, .string s.pk.s, .int .i64 s.pk.n, .int .i64 s.pk.p] 63); obtain ⟨hc, hf⟩ := L.bcell hb; have H1 := jj (H.out.below hb); have HP1 := jj (HP.out.below hb); have K1 := jj (Kpt.of_below (b := b) hlt hb); clear hb hb1) | (go_at_call 125; refine (zgw H1.out HP1.out).mono ?_; rintro e w2 ⟨rfl, h2, k2⟩; have H2 := jj h2; have K2 := jj (K1.out.trans k2); clear h2 k2) | (go_at_call 38; refine (T.zeo _ HS.out _).mono ?_; rintro e w3 ⟨rfl, hb3⟩))
  go_ret
  exact ⟨rfl, H2.out.below hb3, K2.out.trans (Kpt.of_below H2.out.rlt hb3)⟩
 ·have e1 : s.txt k = (⟨#[]⟩, s.no s.pk.p 5) := by unfold PS.txt; rw [if_neg hk]
  rw [e1]
  clear e1
  have hk' : (s.pk.k != k) = true := by simpa using hk
  clear hk
  go_enter Tryz.func82, Tryz.ntmps82
  go_wp2_with (first | (go_at_call 46; refine HPK.out.mono ?_; rintro e w1 ⟨rfl, hb1⟩; have hb := hb1.alloc hb1.size (.cells #[.int .i64 s.pk.k, .string s.pk.s, .int .i64 s.pk.n, .int .i64 s.pk.p] 63); obtain ⟨hc, hf⟩ := L.bcell hb; have H1 := jj (H.out.below hb); have K1 := jj (Kpt.of_below (b := b) hlt hb); clear hb hb1) | (go_at_call 47; refine (zbj H1.out _ 5).mono ?_; rintro e w3 ⟨rfl, h3, k3⟩))
  go_ret
  exact ⟨rfl, h3, K1.out.trans k3⟩
def PS.fin (s : PS) : PS := if s.l.isEmpty = true then s else s.no s.pk.p 5
theorem zvx (h : St Av B rb b w s) : Calls Tryz.prog 27 #[.pointer (some ⟨rb, 0, none⟩)] w (VPost Av B rb b w s.fin) := by
 obtain ⟨p, v, hp, hR⟩ := h.rb_
 obtain ⟨c0, c1, c2, c3, c4⟩ := hp.cells
 have HD := jj (zy5 h hp)
 have HPK := jj (zbm h hp)
 have H := jj h
 have hlt := h.rlt
 clear h hp hR
 by_cases hy : s.l.isEmpty = true
 ·have e1 : s.fin = s := by unfold PS.fin; rw [if_pos hy]
  rw [e1]
  rw [hy] at HD
  clear hy e1
  go_enter Tryz.func27, Tryz.ntmps27
  go_wp2_with (go_at_call 54; refine HD.out.mono ?_; rintro e w1 ⟨rfl, rfl⟩)
  go_end0
  exact ⟨rfl, H.out, Kpt.refl _ _ _⟩
 ·have e1 : s.fin = s.no s.pk.p 5 := by unfold PS.fin; rw [if_neg hy]
  rw [e1]
  rw [beff.2 hy] at HD
  clear hy e1
  go_enter Tryz.func27, Tryz.ntmps27
  go_wp2_with (first | (go_at_call 54; refine HD.out.mono ?_; rintro e w1 ⟨rfl, rfl⟩) | (go_at_call 46; refine HPK.out.mono ?_; rintro e w2 ⟨rfl, hb2⟩; have H2 := jj (H.out.below hb2); have K2 := jj (Kpt.of_below (b := b) hlt hb2); clear hb2) | (go_at_call 47; refine (zbj H2.out _ 5).mono ?_; rintro e w3 ⟨rfl, h3, k3⟩))
  go_end0
  exact ⟨rfl, h3, K2.out.trans k3⟩
theorem zj1 (h : St Av B rb b w s) (bx : Nat) (hbx : w.cell? ⟨bx, 0, none⟩ = some (.pointer (some ⟨rb, 0, none⟩))) (x : ByteArray) :
  Calls Tryz.prog 128 #[.string x, .pointer (some ⟨bx, 0, none⟩)] w fun e w' => e = .returned (.bool (s.is 7 x.toList)) /\ Below w.heap.size w w' := by
 obtain ⟨p, v, hp, hR⟩ := h.rb_
 obtain ⟨c0, c1, c2, c3, c4⟩ := hp.cells
 have HI := jj (is_s h hp 7 x (by decide) (by decide))
 clear h hp hR
 obtain ⟨y, hy⟩ : ∃ y, s.is 7 x.toList = y := ⟨_, rfl⟩
 rw [hy] at HI ⊢
 clear hy
 go_enter Tryz.func128, Tryz.ntmps128
 go_wp2_with (go_at_call 124; refine HI.out.mono ?_; rintro e w1 ⟨rfl, hb1⟩)
 go_ret
 exact ⟨rfl, hb1⟩
end
open T Go.RowKit
attribute [local go_sem] zat zau zas
def TxRow (w : World) (g o : Nat) (l : List ByteArray) : Prop := ∀ j x, l[j]? = some x -> w.cell? ⟨g, o + j, none⟩ = some (.string x)
theorem zsv (P : ByteArray -> Bool) (l : List ByteArray) (L c g o bx : Nat) (w : World) (HL : Hid (l.length = L)) (hL : L <= 1000) (hg : g < w.heap.size) (HR : Hid (TxRow w g o l))
  (HF : Hid (∀ w1 x, Below w.heap.size w w1 -> Calls Tryz.prog 128 #[.string x, .pointer (some ⟨bx, 0, none⟩)] w1 fun e w' => e = .returned (.bool (P x)) /\ Below w1.heap.size w1 w')) :
  Calls Tryz.prog 161 #[.slice (some ⟨g, o, none⟩) L c, .func (.func 128) #[] #[.pointer (some ⟨bx, 0, none⟩)]] w (FxPost (l.any P) w) := by
 go_enter Tryz.func161, Tryz.ntmps161
 go_wp2
 go_loopw [8] (fun i wr => ∃ q : Nat, i = .int .i64 (q : Int) /\ q <= L /\ Hid ((l.take q).any P = false) /\ Hid (Below w.heap.size w wr)) (fun i _ => L - (intOf i).toNat)
 case atStart => exact ⟨0, rfl, Nat.zero_le _, jj (by simp), jj (br _ _)⟩
 case round =>
  obtain ⟨q, rfl, hq, HC, HB⟩ := hrel
  have hsz := HB.out.size
  by_cases hlt : q < L
  ·obtain ⟨x, hx⟩ : ∃ x, l[q]? = some x := ⟨_, List.getElem?_eq_getElem (by rw [HL.out]; exact hlt)⟩
   have hcx := (HB.out.cell (p := ⟨g, o + q, none⟩) hg).trans (HR.out q x hx)
   cases hp : P x with
   | true =>
    have HY := jj (zhn P l q x hx hp)
    have HP := jj hp
    clear hx hp
    go_wp2_with (go_at_call 128; refine (HF.out _ x HB.out).mono ?_; rintro e w1 ⟨rfl, hb1⟩; rw [HP.out]; have HBB := jj hb1; clear hb1)
    go_ret
    exact ⟨⟨_, rfl, by rw [HY.out]; simp⟩, HB.out.trans (HBB.out.mono hsz)⟩
   | false =>
    have HY := jj (zlo P l q x hx HC.out hp)
    have HP := jj hp
    clear hx hp
    go_wp2_with (go_at_call 128; refine (HF.out _ x HB.out).mono ?_; rintro e w1 ⟨rfl, hb1⟩; rw [HP.out]; have HBB := jj hb1; clear hb1)
    go_roundw
    case rel => exact ⟨q + 1, by go_num, by omega, HY, jj (HB.out.trans (HBB.out.mono hsz))⟩
    case measure => simp [intOf]; omega
  ·obtain rfl : q = L := by omega
   go_wp2
   go_ret
   exact ⟨⟨_, rfl, by have := HC.out; rw [List.take_of_length_le (by rw [HL.out]; omega)] at this; rw [this]; rfl⟩, HB.out⟩
theorem zp3 (P : ByteArray -> Bool) (l : List ByteArray) (L c g o bx : Nat) (w : World) (t : Bool) (ht : l.any P = t) (HL : Hid (l.length = L)) (hL : L <= 1000) (hg : g < w.heap.size) (HR : Hid (TxRow w g o l))
  (HF : Hid (∀ w1 x, Below w.heap.size w w1 -> Calls Tryz.prog 128 #[.string x, .pointer (some ⟨bx, 0, none⟩)] w1 fun e w' => e = .returned (.bool (P x)) /\ Below w1.heap.size w1 w')) :
  Calls Tryz.prog 127 #[.slice (some ⟨g, o, none⟩) L c, .func (.func 128) #[] #[.pointer (some ⟨bx, 0, none⟩)]] w fun e w' => e = .returned (.bool t) /\ Below w.heap.size w w' := by
 have HC := jj (zsv P l L c g o bx w HL hL hg HR HF)
 rw [ht] at HC
 clear ht
 go_enter Tryz.func127, Tryz.ntmps127
 go_wp2_with (go_at_call 161; refine HC.out.mono ?_; rintro e w1 ⟨⟨r, rfl, hr⟩, hb1⟩)
 go_ret
 exact ⟨zag (by first | exact hr | simp), hb1⟩
section
variable {Av : Nat -> Prop} {B rb b : Nat} {w w' : World} {s : PS} {p : Option Addr} {v : Value}
theorem zdd (h : St Av B rb b w s) (l : List ByteArray) (L c g o : Nat) (t : Bool) (ht : (l.any fun x => s.is 7 x.toList) = t) (hl : l.length = L) (hL : L <= 1000) (hg : g < w.heap.size) (hr : TxRow w g o l) :
  Calls Tryz.prog 86 #[.pointer (some ⟨rb, 0, none⟩), .slice (some ⟨g, o, none⟩) L c] w fun e w' => e = .returned (.bool t) /\ Below w.heap.size w w' := by
 have hal : Below w.heap.size w (w.alloc (.cells #[.pointer (some ⟨rb, 0, none⟩)] 83)) := baw w _
 have HC := jj (zp3 (fun x => s.is 7 x.toList) l L c g o w.heap.size (w.alloc (.cells #[.pointer (some ⟨rb, 0, none⟩)] 83)) t ht (jj hl) hL (by simp; omega) (jj fun j x hj => (hal.cell (p := ⟨g, o + j, none⟩) hg).trans (hr j x hj))
  (jj fun w1 x hb => zj1 ((h.below hal).below hb) w.heap.size ((hb.cell (p := ⟨w.heap.size, 0, none⟩) (by simp)).trans (zaa (anw w _) 0)) x))
 have HAL := jj hal
 clear h ht hl hr hal
 go_enter Tryz.func86, Tryz.ntmps86
 go_wp2_with (go_at_call 127; refine HC.out.mono ?_; rintro e w1 ⟨rfl, hb1⟩)
 go_ret
 exact ⟨rfl, HAL.out.trans (hb1.mono (by simp))⟩
theorem zlq (w : World) (t : TypeId) (x y : ByteArray) (g : Nat) (hg : g = w.heap.size) : TxRow (w.alloc (.cells #[.string x, .string y] t)) g 0 [x, y] := by
 subst hg
 intro j z hj
 have h := anw w (.cells #[.string x, .string y] t)
 rw [zaa h]
 match j, hj with
 | 0, hj => cases hj; rfl
 | 1, hj => cases hj; rfl
theorem zqs (w : World) (t : TypeId) (x y z : ByteArray) (g : Nat) (hg : g = w.heap.size) : TxRow (w.alloc (.cells #[.string x, .string y, .string z] t)) g 0 [x, y, z] := by
 subst hg
 intro j u hj
 have h := anw w (.cells #[.string x, .string y, .string z] t)
 rw [zaa h]
 match j, hj with
 | 0, hj => cases hj; rfl
 | 1, hj => cases hj; rfl
 | 2, hj => cases hj; rfl
end
theorem zhg (x : ByteArray) (w : World) : Calls Tryz.prog 129 #[.string x] w fun e w' => e = .returned (.int .i64 (prim x)) /\ w = w' := by
 have key : ∀ l : List UInt8, x.toList = l -> (x.toList == l) = true := fun l h => by simpa using h
 have nay : ∀ l : List UInt8, x.toList ≠ l -> (x.toList == l) = false := fun l h => by simpa using h
 unfold prim
 by_cases h1 : x.toList = [60]
 ·rw [if_pos h1]
  have a1 := key _ h1
  clear key nay h1
  go_enter Tryz.func129, Tryz.ntmps129
  go_wp2
  go_ret
  exact ⟨rfl, rfl⟩
 rw [if_neg h1]
 have a1 := nay _ h1
 by_cases h2 : x.toList = [61, 61]
 ·rw [if_pos h2]
  have a2 := key _ h2
  clear key nay h1 h2
  go_enter Tryz.func129, Tryz.ntmps129
  go_wp2
  go_ret
  exact ⟨rfl, rfl⟩
 rw [if_neg h2]
 have a2 := nay _ h2
 by_cases h3 : x.toList = [43]
 ·rw [if_pos h3]
  have a3 := key _ h3
  clear key nay h1 h2 h3
  go_enter Tryz.func129, Tryz.ntmps129
  go_wp2
  go_ret
  exact ⟨rfl, rfl⟩
 rw [if_neg h3]
 have a3 := nay _ h3
 by_cases h4 : x.toList = [45]
 ·rw [if_pos h4]
  have a4 := key _ h4
  clear key nay h1 h2 h3 h4
  go_enter Tryz.func129, Tryz.ntmps129
  go_wp2
  go_ret
  exact ⟨rfl, rfl⟩
 rw [if_neg h4]
 have a4 := nay _ h4
 by_cases h5 : x.toList = [94]
 ·rw [if_pos h5]
  have a5 := key _ h5
  clear key nay h1 h2 h3 h4 h5
  go_enter Tryz.func129, Tryz.ntmps129
  go_wp2
  go_ret
  exact ⟨rfl, rfl⟩
 rw [if_neg h5]
 have a5 := nay _ h5
 by_cases h6 : x.toList = [42]
 ·rw [if_pos h6]
  have a6 := key _ h6
  clear key nay h1 h2 h3 h4 h5 h6
  go_enter Tryz.func129, Tryz.ntmps129
  go_wp2
  go_ret
  exact ⟨rfl, rfl⟩
 rw [if_neg h6]
 have a6 := nay _ h6
 by_cases h7 : x.toList = [47]
 ·rw [if_pos h7]
  have a7 := key _ h7
  clear key nay h1 h2 h3 h4 h5 h6 h7
  go_enter Tryz.func129, Tryz.ntmps129
  go_wp2
  go_ret
  exact ⟨rfl, rfl⟩
 rw [if_neg h7]
 have a7 := nay _ h7
 clear key nay h1 h2 h3 h4 h5 h6 h7
 go_enter Tryz.func129, Tryz.ntmps129
 go_wp2
 go_ret
 exact ⟨rfl, rfl⟩
open T Go.RowKit
theorem zfp {P : Program} (w : World) (base : Nat) (t ty e : TypeId) (i : TypeInfo) (z : Value) (size bytes : Nat) (ht : P.underlying t = some (.slice e)) (hi : P.info? e = some i) (hz : i.zero = some z)
  (hsize : i.size = size) (hby : i.bytes = bytes) (hzs : z.cells.size = size) (hsz : 0 < size) (v : Value) (n : Nat) (xs : List Value) (hown : w.ownsRow base e size v n xs)
  (a : Addr) (m c : Nat) (news : List Value) (hl : news.length = m * size) (hnews : ∀ j u, news[j]? = some u -> w.cell? (a.add j) = some u) (h1 : ∀ u ∈ news, u.oneCell' = true)
  (h63 : n + m <= maxLen) (hbytes : (n + m) * bytes <= 140737488355328) (hbase : base <= w.heap.size) :
  ∃ v' w', (Builtin.append_ #[t, t] ty #[v, .slice (some a) m c]).run P w = .ok v' w' /\ w'.ownsRow base e size v' (n + m) (xs ++ news) /\ w.grownBy w' v.ownBlock /\ (v'.ownBlock = v.ownBlock ∨ ∃ g, v'.ownBlock = some g /\ w.heap.size <= g) := by
 obtain ⟨v', w', hr, h2, h3, h4⟩ := run_append_own (P := P) w base t ty e i z size bytes ht hi hz hsize hby hzs hsz v n xs hown a m c news hl hnews h1 h63 hbytes hbase
 refine ⟨v', w', hr, h2, h3, ?_⟩
 subst hsize
 subst hby
 simp only [maxLen] at h63
 rcases hown.2 with ⟨rfl, rfl⟩ | ⟨g, cap, cur, rfl, hbg, hg, hnc, hcm, hcs, htake⟩
 ·have hown2 : w.ownsRow w.heap.size e i.size (.slice none 0 0) 0 xs := ⟨hown.1, .inl ⟨rfl, rfl⟩⟩
  obtain ⟨v2, w2, hr2, k2, k3, k4⟩ := run_append_own (P := P) w w.heap.size t ty e i z i.size i.bytes ht hi hz rfl rfl hzs hsz _ 0 xs hown2 a m c news hl hnews h1 (by simp only [maxLen]; omega) hbytes (lrf _)
  rw [hr] at hr2
  injection hr2 with e1 e2
  subst e1 e2
  rcases k2.2 with ⟨rfl, _⟩ | ⟨g, cap, cur, rfl, hg, _⟩
  ·exact .inl rfl
  ·exact .inr ⟨g, rfl, hg⟩
 ·by_cases hroom : n + m <= cap
  ·have hfit : n * i.size + news.length <= cur.size := by rw [hl, hcs, <- Nat.add_mul]; exact Nat.mul_le_mul_right _ hroom
   have hr2 := run_append_room (P := P) w t ty e i ht hi g n cap cur hg a m c news hl hnews h1 hroom hfit
   rw [hr] at hr2
   injection hr2 with e1 e2
   subst e1
   exact .inl rfl
  ·have holds : ∀ j u, xs[j]? = some u -> w.cell? ((⟨g, 0, none⟩ : Addr).add j) = some u := hown.cells (g := g) rfl
   have hr2 := run_append_grow (P := P) w t ty e i z ht hi hz ⟨g, 0, none⟩ n cap xs hown.1 holds a m c news hl hnews (by omega) (by omega) (growslice_fits (by omega) hbytes)
   rw [hr] at hr2
   injection hr2 with e1 e2
   subst e1
   exact .inr ⟨_, rfl, lrf _⟩
theorem zcu {P : Program} (w : World) {o : Oper} {a : Act} {K : Act -> World -> Prop} {Q : Exit -> Act -> World -> Prop} (s x : Operand) (t : TypeId)
  (ho : o.op = .call { callee := .builtin .append, args := #[s, x], argTypes := #[t, t] })
  (base : Nat) (e : TypeId) (i : TypeInfo) (z : Value) (size bytes : Nat) (ht : P.underlying t = some (.slice e)) (hi : P.info? e = some i) (hz : i.zero = some z)
  (hsize : i.size = size) (hby : i.bytes = bytes) (hzs : z.cells.size = size) (hsz : 0 < size)
  (v : Value) (n : Nat) (xs : List Value) (hs : a.eval s = v) (hown : w.ownsRow base e size v n xs)
  (ad : Addr) (m c : Nat) (news : List Value) (hx : a.eval x = .slice (some ad) m c) (hl : news.length = m * size) (hnews : ∀ j u, news[j]? = some u -> w.cell? (ad.add j) = some u) (h1 : ∀ u ∈ news, u.oneCell' = true)
  (h63 : n + m <= maxLen) (hbytes : (n + m) * bytes <= 140737488355328) (hbase : base <= w.heap.size)
  (h : ∀ v' w', w'.ownsRow base e size v' (n + m) (xs ++ news) -> w.grownBy w' v.ownBlock -> (v'.ownBlock = v.ownBlock ∨ ∃ g, v'.ownBlock = some g /\ w.heap.size <= g) -> K (a.put o.dst v') w') : o.wp P a w K Q := by
 obtain ⟨v', w', hr, h2, h3, h4⟩ := zfp (P := P) w base t o.type e i z size bytes ht hi hz hsize hby hzs hsz v n xs hown ad m c news hl hnews h1 h63 hbytes hbase
 unfold Oper.wp execOp
 simp only [ho, resolve, invoke, builtin, Sem.run_bind, Sem.run_pure, Result.andThen_ok, List.map_toArray, List.map_cons, List.map_nil, hs, hx, hr]
 exact h v' w' h2 h3 h4
theorem ze9 {P : Program} {ops : Array Oper} {o : Oper} {a : Act} {K : Act -> World -> Prop} {Q : Exit -> Act -> World -> Prop} {E : Prop} (w : World) (hgd : o.guard = none) (s x : Operand) (t : TypeId)
  (ho : o.op = .call { callee := .builtin .append, args := #[s, x], argTypes := #[t, t] })
  (base : Nat) (e : TypeId) (i : TypeInfo) (z : Value) (size bytes : Nat) (ht : P.underlying t = some (.slice e)) (hi : P.info? e = some i) (hz : i.zero = some z)
  (hsize : i.size = size) (hby : i.bytes = bytes) (hzs : z.cells.size = size) (hsz : 0 < size)
  (v : Value) (n : Nat) (xs : List Value) (hs : a.eval s = v) (hown : w.ownsRow base e size v n xs)
  (ad : Addr) (m c : Nat) (news : List Value) (hx : a.eval x = .slice (some ad) m c) (hl : news.length = m * size) (hnews : ∀ j u, news[j]? = some u -> w.cell? (ad.add j) = some u) (h1 : ∀ u ∈ news, u.oneCell' = true)
  (h63 : n + m <= maxLen) (hbytes : (n + m) * bytes <= 140737488355328) (hbase : base <= w.heap.size)
  (h : ∀ v' w', w'.ownsRow base e size v' (n + m) (xs ++ news) -> w.grownBy w' v.ownBlock -> (v'.ownBlock = v.ownBlock ∨ ∃ g, v'.ownBlock = some g /\ w.heap.size <= g) -> K (a.put o.dst v') w') : if Region.wanted o (yielded ops a.tmps) = true then Oper.wp P o a w K Q else E := by
 have hw : Region.wanted o (yielded ops a.tmps) = true := by simp [Region.wanted, hgd]
 rw [if_pos hw]
 exact zcu w s x t ho base e i z size bytes ht hi hz hsize hby hzs hsz v n xs hs hown ad m c news hx hl hnews h1 h63 hbytes hbase h
theorem St.added {Av : Nat -> Prop} {B rb b : Nat} {w W W8 : World} {s : PS} {p : Option Addr} {v v2 fv : Value} {ps : List (Nd × Value)} {y : Nd} (h : St Av B rb b w s) (hp : Rb w rb p v s) (hN : ps.map Prod.fst = s.N) (ho : OwnA Av B w v ps) (hf : OwnF B w fv y.l) (hfa : ∀ g, fv.ownBlock = some g -> ¬ Av g) (hR : Rdr B rb b w p s.l s.E s.dead)
  (hW : Below w.heap.size w W) (h7 : W8.ownsRow B 37 9 v2 (ps.length + 1) (nCells ps ++ (ndArr y fv).toList)) (hg : W.grownBy W8 v.ownBlock) (hv2 : v2.ownBlock = v.ownBlock ∨ ∃ g, v2.ownBlock = some g /\ W.heap.size <= g) :
  Rb W8 rb p v s /\ St Av B rb b (W8.setCell ⟨rb, 1, none⟩ v2) { s with N := s.N ++ [y] } /\ Kpt rb b w (W8.setCell ⟨rb, 1, none⟩ v2) := by
 have hrb := h.hrb
 have hbB := h.hb
 have hB := h.hB
 have hvB : ∀ r, v.ownBlock = some r -> B <= r := fun r hr => (own27 ho.1.1 r hr).1
 have hWs := hW.size
 have hgs := hg.size
 have hbl : ∀ k, k < w.heap.size -> v.ownBlock ≠ some k -> W8.heap[k]? = w.heap[k]? := fun k hk hne => (hg.block k (by omega) (fun e => hne e.symm)).trans (hW.block k hk)
 have hp8 : Rb W8 rb p v s := (hbl rb (by omega) fun e => by have := hvB _ e; omega).trans hp
 have hoW : OwnN B W v ps := zbf ho.1 (zb1 hW)
 have hfW : OwnF B W fv y.l := World.ownsRow.kept hf (zb1 hW) (zed _)
 refine ⟨hp8, ⟨fun g hg => by have := h.av g hg; simp; omega, hrb, hbB, by simp; omega, h.ne, p, v2, ps ++ [(y, fv)], zaq (j := 1) (v := v2) hp8, ?_, ?_, ?_, fun x hx => ?_⟩, ⟨⟨?_, ?_, ?_, ?_, fun k hk hh => ?_⟩, ?_⟩⟩
 ·refine hR.heap ((zaf _ _ _ _ _ (Ne.symm h.ne)).trans (hbl b (by omega) fun e => by have := hvB _ e; omega)) fun g hg1 hg2 _ => (zaf _ _ _ _ _ hg2).trans (hbl g (by omega) fun e => by have := hvB _ e; omega)
 ·rw [List.map_append, hN]; rfl
 ·refine zje (W := W8) ⟨by rw [zgj, List.length_append]; exact h7, fun x hx => ?_⟩ fun g hg1 _ => zaf _ _ _ _ _ (by omega)
  rcases List.mem_append.1 hx with hx | hx
  ·exact World.ownsRow.kept (hoW.2 x hx) hg (zef (hoW.2 x hx) hoW.1 (by decide))
  ·obtain rfl : x = (y, fv) := by simpa using hx
   exact World.ownsRow.kept hfW hg (zef hfW hoW.1 (by decide))
 ·rcases List.mem_append.1 hx with hx | hx
  ·exact ho.2 x hx
  ·obtain rfl : x = (y, fv) := by simpa using hx
   exact hfa
 ·exact hg.os.trans hW.os
 ·exact hg.tape.trans hW.tape
 ·exact hg.output.trans hW.output
 ·simp; omega
 ·have hkr : k ≠ rb := fun e => hh (.inl e)
  exact (zaf _ _ _ _ _ hkr).trans (hbl k hk fun e => hh (.inr (.inr (hp.nbk.trans e))))
 ·have e2 : nbk (W8.setCell ⟨rb, 1, none⟩ v2) rb = v2.ownBlock := by
   unfold nbk
   rw [zaa (zaq (j := 1) (v := v2) hp8) 1]; rfl
  rw [e2, hp.nbk]
  rcases hv2 with h | ⟨g, h, hh⟩
  ·exact .inl h
  ·exact .inr ⟨g, h, by omega⟩
open T Go.RowKit Go.Shelf
attribute [local go_sem] zat zau zas
theorem zde (Av : Nat -> Prop) : ∀ g, (Value.slice none 0 0).ownBlock = some g -> ¬ Av g := fun g h => by cases h
section
variable {Av : Nat -> Prop} {B rb b : Nat} {w w' : World} {s s' : PS}
theorem zbp (h : St Av B rb b w s) {y : Nd} {FA : Option Addr} {n fc a : Nat} (hf : OwnF B w (.slice FA n fc) y.l) (hfa : ∀ g, (Value.slice FA n fc).ownBlock = some g -> ¬ Av g) (ho : s.add y = some (a, s')) :
  Calls Tryz.prog 84 #[.pointer (some ⟨rb, 0, none⟩), .agg #[.int .i64 y.kind, .int .i64 y.a, .int .i64 y.b, .int .i64 y.c, .int .i64 y.n, .string y.nm, .string y.s, .slice FA n fc, .int .i64 y.pos]] w (APost Av B rb b w a s') := by
 obtain ⟨j0, hj0, hy0, hy1, hy2⟩ := info_parts ndInfo
 unfold PS.add at ho
 split at ho
 case isFalse => cases ho
 rename_i hlen
 cases ho
 obtain ⟨p, v, ps, h1, h2, h3, h4⟩ := h.at_
 have hp : Rb w rb p v s := h1
 have hpl : ps.length = s.N.length := by rw [<- h3, List.length_map]
 obtain ⟨m, hm⟩ : ∃ m, s.N.length = m := ⟨_, rfl⟩
 rw [hm] at hlen hpl
 obtain ⟨A0, k0, rfl⟩ : ∃ A c, v = .slice A m c := by
  obtain ⟨A, c, e⟩ := zgo h4.1
  exact ⟨A, c, by rw [e, hpl]⟩
 have hb0 : Below w.heap.size w (w.alloc (.cells (ndArr y (.slice FA n fc)) 37)) := baw w _
 have HX : Hid (∀ (W W8 : World) (v2 : Value), Below w.heap.size w W -> W8.ownsRow B 37 9 v2 (m + 1) (nCells ps ++ (ndArr y (.slice FA n fc)).toList) -> W.grownBy W8 (Value.slice A0 m k0).ownBlock -> (v2.ownBlock = (Value.slice A0 m k0).ownBlock ∨ ∃ g, v2.ownBlock = some g /\ W.heap.size <= g) ->
   Rb W8 rb p (.slice A0 m k0) s /\ St Av B rb b (W8.setCell ⟨rb, 1, none⟩ v2) { s with N := s.N ++ [y] } /\ Kpt rb b w (W8.setCell ⟨rb, 1, none⟩ v2)) := jj fun W W8 v2 hW h7 hg hv => St.added h hp h3 h4 hf hfa h2 hW (by rw [hpl]; exact h7) hg hv
 have hBs := h.hB
 have HRow : Hid (∀ W, Below w.heap.size w W -> W.ownsRow B 37 9 (.slice A0 m k0) m (nCells ps)) := jj fun W hW => by have := (zbf h4.1 (zb1 hW)).1; rwa [hpl] at this
 obtain ⟨c0, c1, c2, c3, c4⟩ := hp.cells
 have hlt := h.rlt
 have HPL := jj hpl
 clear h hp h1 h2 h3 h4 hf hpl hfa
 rw [hm]
 clear hm
 have HBW : Hid (Below w.heap.size w ((w.alloc (.cells (ndArr y (.slice FA n fc)) 37)).alloc (.cells (ndArr y (.slice FA n fc)) 37)).drew) := jj ((hb0.alloc (by simp) _).drew)
 have HC : Hid (∀ j u, (ndArr y (.slice FA n fc)).toList[j]? = some u -> (((w.alloc (.cells (ndArr y (.slice FA n fc)) 37)).alloc (.cells (ndArr y (.slice FA n fc)) 37)).drew).cell? ((⟨w.heap.size + 1, 0, none⟩ : Addr).add j) = some u) :=
  jj fun j u hj => zaj (w.alloc (.cells (ndArr y (.slice FA n fc)) 37)) 37 (ndArr y (.slice FA n fc)).toList (w.heap.size + 1) (by simp) j u hj
 clear hb0
 go_enter Tryz.func84, Tryz.ntmps84
 go_wp2
 go_region_law (refine ze9 _ rfl _ _ 23 rfl B 37 j0 (.agg #[.int .i64 0, .int .i64 0, .int .i64 0, .int .i64 0, .int .i64 0, .string ⟨#[]⟩, .string ⟨#[]⟩, .slice none 0 0, .int .i64 0]) 9 104 Tryz.underlying23 hj0 hy0 hy1 hy2 rfl (by decide) _ m _ rfl (HRow.out _ HBW.out) ⟨w.heap.size + 1, 0, none⟩ 1 1 ((ndArr y (.slice FA n fc)).toList) rfl rfl HC.out (zoq _ _ _ _) (by unfold maxLen; omega) (by omega) (by simp; omega) ?_; intro v8 w8 hown8 hgrow8 hpl8; obtain ⟨g8, c8, rfl⟩ := ownsRow_succ hown8; have HE := jj (HX.out _ w8 _ HBW.out hown8 hgrow8 hpl8); obtain ⟨d0, d1, d2, d3, d4⟩ := HE.out.1.cells; have f1 := HE.out.1.frozen 1; clear hown8 hgrow8 hpl8)
 all_goals
  go_wp2
  go_ret
  exact ⟨z1k (by omega), HE.out.2.1, HE.out.2.2⟩
end
open T Go.RowKit Go.Shelf
attribute [local go_sem] zat zau zas
theorem zq8 (P : Fld -> Bool) (l : List Fld) (L c bx : Nat) (A : Option Addr) (w : World) (HL : Hid (l.length = L)) (hL : L <= 1000) (HR : Hid (0 < L -> ∃ g o, A = some ⟨g, o, none⟩ /\ g < w.heap.size /\ FldsAt w g o l))
  (HF : Hid (∀ w1 f, Below w.heap.size w w1 -> Calls Tryz.prog 214 #[.agg #[.string (Fld.nm f), .string (Fld.vr f), .int .i64 (Fld.pl f)], .pointer (some ⟨bx, 0, none⟩)] w1 fun e w' => e = .returned (.bool (P f)) /\ Below w1.heap.size w1 w')) :
  Calls Tryz.prog 215 #[.slice A L c, .func (.func 214) #[] #[.pointer (some ⟨bx, 0, none⟩)]] w (FxPost (l.any P) w) := by
 go_enter Tryz.func215, Tryz.ntmps215
 go_wp2
 go_loopw [8] (fun i wr => ∃ q : Nat, i = .int .i64 (q : Int) /\ q <= L /\ Hid ((l.take q).any P = false) /\ Hid (Below w.heap.size w wr)) (fun i _ => L - (intOf i).toNat)
 case atStart => exact ⟨0, rfl, Nat.zero_le _, jj (by simp), jj (br _ _)⟩
 case round =>
  obtain ⟨q, rfl, hq, HC, HB⟩ := hrel
  have hsz := HB.out.size
  by_cases hlt : q < L
  ·obtain ⟨f, hx⟩ : ∃ x, l[q]? = some x := ⟨_, List.getElem?_eq_getElem (by rw [HL.out]; exact hlt)⟩
   obtain ⟨g, o, rfl, hg, hr⟩ := HR.out (by omega)
   obtain ⟨m0, m1, m2⟩ := (hr.below (HB.out.mono (Nat.succ_le_of_lt hg)) (Nat.lt_succ_self g)) q f hx
   have HRR := jj hr
   clear hr
   cases hp : P f with
   | true =>
    have HY := jj (zhn P l q f hx hp)
    have HP := jj hp
    clear hx hp
    go_wp2_with (go_at_call 214; refine (HF.out _ f HB.out).mono ?_; rintro e w1 ⟨rfl, hb1⟩; rw [HP.out]; have HBB := jj hb1; clear hb1)
    go_ret
    exact ⟨⟨_, rfl, by rw [HY.out]; simp⟩, HB.out.trans (HBB.out.mono hsz)⟩
   | false =>
    have HY := jj (zlo P l q f hx HC.out hp)
    have HP := jj hp
    clear hx hp
    go_wp2_with (go_at_call 214; refine (HF.out _ f HB.out).mono ?_; rintro e w1 ⟨rfl, hb1⟩; rw [HP.out]; have HBB := jj hb1; clear hb1)
    go_roundw
    case rel => exact ⟨q + 1, by go_num, by omega, HY, jj (HB.out.trans (HBB.out.mono hsz))⟩
    case measure => simp [intOf]; omega
  ·obtain rfl : q = L := by omega
   go_wp2
   go_ret
   exact ⟨⟨_, rfl, by have := HC.out; rw [List.take_of_length_le (by rw [HL.out]; omega)] at this; rw [this]; rfl⟩, HB.out⟩
theorem zi6 (P : Fld -> Bool) (l : List Fld) (L c bx : Nat) (A : Option Addr) (w : World) (t : Bool) (ht : l.any P = t) (HL : Hid (l.length = L)) (hL : L <= 1000) (HR : Hid (0 < L -> ∃ g o, A = some ⟨g, o, none⟩ /\ g < w.heap.size /\ FldsAt w g o l))
  (HF : Hid (∀ w1 f, Below w.heap.size w w1 -> Calls Tryz.prog 214 #[.agg #[.string (Fld.nm f), .string (Fld.vr f), .int .i64 (Fld.pl f)], .pointer (some ⟨bx, 0, none⟩)] w1 fun e w' => e = .returned (.bool (P f)) /\ Below w1.heap.size w1 w')) :
  Calls Tryz.prog 213 #[.slice A L c, .func (.func 214) #[] #[.pointer (some ⟨bx, 0, none⟩)]] w fun e w' => e = .returned (.bool t) /\ Below w.heap.size w w' := by
 have HC := jj (zq8 P l L c bx A w HL hL HR HF)
 rw [ht] at HC
 clear ht
 go_enter Tryz.func213, Tryz.ntmps213
 go_wp2_with (go_at_call 215; refine HC.out.mono ?_; rintro e w1 ⟨⟨r, rfl, hr⟩, hb1⟩)
 go_ret
 exact ⟨zag (by first | exact hr | simp), hb1⟩
theorem zg7 (f : Fld) (x : ByteArray) (bx : Nat) (w : World) (hx : w.cell? ⟨bx, 0, none⟩ = some (.string x)) (hlt : bx < w.heap.size) :
  Calls Tryz.prog 214 #[.agg #[.string (Fld.nm f), .string (Fld.vr f), .int .i64 (Fld.pl f)], .pointer (some ⟨bx, 0, none⟩)] w fun e w' => e = .returned (.bool (f.nm.toList == x.toList)) /\ Below w.heap.size w w' := by
 have h1 : (w.alloc (.cells #[.string (Fld.nm f), .string (Fld.vr f), .int .i64 (Fld.pl f)] 97)).cell? ⟨bx, 0, none⟩ = some (.string x) := ((baw w _).cell (p := ⟨bx, 0, none⟩) hlt).trans hx
 obtain ⟨y, hy⟩ : ∃ y, (f.nm.toList == x.toList) = y := ⟨_, rfl⟩
 rw [hy]
 go_enter Tryz.func214, Tryz.ntmps214
 go_wp2
 go_ret
 exact ⟨rfl, baw w _⟩
section
variable {Av : Nat -> Prop} {B rb b : Nat} {w w' : World} {s s' : PS}
theorem zln {v : Value} {l : List Fld} (hf : OwnF B w v l) (h : St Av B rb b w s) (hk : Kpt rb b w w') : OwnF B w' v l := by
 have hrb := h.hrb
 have hbB := h.hb
 refine ⟨hf.1, ?_⟩
 rcases hf.2 with h0 | ⟨g, cap, cur, e1, e2, e3, e4⟩
 ·exact .inl h0
 ·refine .inr ⟨g, cap, cur, e1, e2, (hk.fr.block g (age.1 e3).1 fun hh => ?_).trans e3, e4⟩
  rcases hh with hh | hh | hh
  ·omega
  ·omega
  ·obtain ⟨_, cur', hc⟩ := h.nbB g hh
   rw [hc] at e3
   injection e3 with e
   injection e with _ e _
   exact absurd e (by decide)
theorem zo2 {v : Value} {A : Option Addr} {n c : Nat} {l : List Fld} (hf : OwnF B w v l) (hv : v = .slice A n c) (hl : l.length = n) : 0 < n -> ∃ g o, A = some ⟨g, o, none⟩ /\ g < w.heap.size /\ FldsAt w g o l := fun h0 => by
 obtain ⟨A', c', e, _, _, hh⟩ := zcx hf
 rw [hv] at e
 injection e with e1 e2 e3
 obtain ⟨g, o, e4, e5, e6⟩ := hh (by omega)
 exact ⟨g, o, e1.trans e4, e5, e6⟩
end
open T Go.RowKit Go.Shelf
attribute [local go_sem] zat zau zas
section
variable {Av : Nat -> Prop} {B rb b : Nat} {w w' : World} {s s' : PS}
theorem zi2 (h : St Av B rb b w s) (k : Int) (fs : List Fld) (FA : Option Addr) (n fc : Nat) (hl : fs.length = n) (hn : n <= 1000) (hf : OwnF B w (.slice FA n fc) fs) :
  Calls Tryz.prog 211 #[.pointer (some ⟨rb, 0, none⟩), .int .i64 k, .slice FA n fc] w (SPost Av B rb b w (s.lab k fs).1 (s.lab k fs).2) := by
 obtain ⟨p, v, hp, hR⟩ := h.rb_
 obtain ⟨c0, c1, c2, c3, c4⟩ := hp.cells
 have hlt := h.rlt
 have HPK := jj (zbm h hp)
 have H := jj h
 have HF := jj hf
 have HL := jj hl
 obtain ⟨x, hx⟩ : ∃ x, (s.txt k).1 = x := ⟨_, rfl⟩
 have HT : Hid (∀ W, Below w.heap.size w W -> Calls Tryz.prog 82 #[.pointer (some ⟨rb, 0, none⟩), .int .i64 k] W (SPost Av B rb b W x (s.txt k).2)) := jj fun W hb => by have := zb3 (h.below hb) k; rwa [hx] at this
 by_cases h30 : n = 30
 ·have e1 : s.lab k fs = (x, (s.txt k).2.no s.pk.p 8) := by unfold PS.lab; rw [if_pos (hl.trans h30), hx]
  rw [e1]
  subst h30
  clear h hp hR hf hl e1 hx
  go_enter Tryz.func211, Tryz.ntmps211
  go_wp2_with (first | (go_at_call 46; refine HPK.out.mono ?_; rintro e w1 ⟨rfl, hb1⟩; have HB1 := jj hb1; clear hb1) | (go_at_call 82; refine (HT.out _ HB1.out).mono ?_; rintro e w2 ⟨rfl, h2, k2⟩; have H2 := jj (h2.alloc (.cells #[.string x] 9)); have K2 := jj (((Kpt.of_below (b := b) hlt HB1.out).trans k2).alloc h2.rlt (.cells #[.string x] 9)); have L2 := jj (Loc.new h2 #[.string x] 9); clear h2 k2) | (go_at_call 47; refine (zbj H2.out _ 8).mono ?_; rintro e w3 ⟨rfl, h3, k3⟩; have H3 := jj h3; have K3 := jj (K2.out.trans k3); have d0 := ((L2.out.kpt k3).cell 0).trans rfl; clear h3 k3))
  go_ret
  exact ⟨rfl, H3.out, K3.out⟩
 ·have hnb : ((n : Int) == 30) = false := by
   have : (n : Int) ≠ 30 := by omega
   simpa using this
  by_cases hy : (fs.any fun y => y.nm.toList == x.toList) = true
  ·have e1 : s.lab k fs = (x, (s.txt k).2.no s.pk.p 5) := by unfold PS.lab; rw [if_neg (by omega), hx, if_pos hy]
   rw [e1]
   have HC : Hid (∀ W bx, Below w.heap.size w W ∨ Kpt rb b w W -> w.heap.size <= bx -> bx < W.heap.size -> W.cell? ⟨bx, 0, none⟩ = some (.string x) -> Calls Tryz.prog 213 #[.slice FA n fc, .func (.func 214) #[] #[.pointer (some ⟨bx, 0, none⟩)]] W fun e w' => e = .returned (.bool true) /\ Below W.heap.size W w') := jj fun W bx hW h1 h2 h3 => by
    have hk : Kpt rb b w W := hW.elim (fun hb => Kpt.of_below hlt hb) id
    exact zi6 _ fs n fc bx FA W true hy (jj hl) hn (jj (zo2 (zln hf h hk) rfl hl)) (jj fun w1 f hb => zg7 f x bx w1 ((hb.cell (p := ⟨bx, 0, none⟩) h2).trans h3) (lltl h2 hb.size))
   clear h hp hR hf hl e1 hx hy h30
   go_enter Tryz.func211, Tryz.ntmps211
   go_wp2_with (first | (go_at_call 46; refine HPK.out.mono ?_; rintro e w1 ⟨rfl, hb1⟩; have HB1 := jj hb1; clear hb1) | (go_at_call 82; refine (HT.out _ HB1.out).mono ?_; rintro e w2 ⟨rfl, h2, k2⟩; have hz2 : w.heap.size <= w2.heap.size := ltr HB1.out.size k2.fr.size; have H2 := jj (h2.alloc (.cells #[.string x] 9)); have K2 := jj (((Kpt.of_below (b := b) hlt HB1.out).trans k2).alloc h2.rlt (.cells #[.string x] 9)); have L2 := jj (Loc.new h2 #[.string x] 9); clear h2 k2) | (go_at_call 213; refine (HC.out _ w2.heap.size (.inr K2.out) hz2 (by simp) ((L2.out.cell 0).trans rfl)).mono ?_; rintro e w3 ⟨rfl, hb3⟩; have H3 := jj (H2.out.below hb3); have L3 := jj (L2.out.kpt (Kpt.of_below H2.out.rlt hb3)); have K3 := jj (K2.out.trans (Kpt.of_below H2.out.rlt hb3)); clear hb3) | (go_at_call 47; refine (zbj H3.out _ 5).mono ?_; rintro e w4 ⟨rfl, h4, k4⟩; have H4 := jj h4; have K4 := jj (K3.out.trans k4); have d0 := ((L3.out.kpt k4).cell 0).trans rfl; clear h4 k4))
   go_ret
   exact ⟨rfl, H4.out, K4.out⟩
  ·have e1 : s.lab k fs = (x, (s.txt k).2) := by unfold PS.lab; rw [if_neg (by omega), hx, if_neg hy]; exact Prod.ext hx rfl
   rw [e1]
   have HC : Hid (∀ W bx, Below w.heap.size w W ∨ Kpt rb b w W -> w.heap.size <= bx -> bx < W.heap.size -> W.cell? ⟨bx, 0, none⟩ = some (.string x) -> Calls Tryz.prog 213 #[.slice FA n fc, .func (.func 214) #[] #[.pointer (some ⟨bx, 0, none⟩)]] W fun e w' => e = .returned (.bool false) /\ Below W.heap.size W w') := jj fun W bx hW h1 h2 h3 => by
    have hk : Kpt rb b w W := hW.elim (fun hb => Kpt.of_below hlt hb) id
    exact zi6 _ fs n fc bx FA W false (beff.2 hy) (jj hl) hn (jj (zo2 (zln hf h hk) rfl hl)) (jj fun w1 f hb => zg7 f x bx w1 ((hb.cell (p := ⟨bx, 0, none⟩) h2).trans h3) (lltl h2 hb.size))
   clear h hp hR hf hl e1 hx hy h30
   go_enter Tryz.func211, Tryz.ntmps211
   go_wp2_with (first | (go_at_call 46; refine HPK.out.mono ?_; rintro e w1 ⟨rfl, hb1⟩; have HB1 := jj hb1; clear hb1) | (go_at_call 82; refine (HT.out _ HB1.out).mono ?_; rintro e w2 ⟨rfl, h2, k2⟩; have hz2 : w.heap.size <= w2.heap.size := ltr HB1.out.size k2.fr.size; have H2 := jj (h2.alloc (.cells #[.string x] 9)); have K2 := jj (((Kpt.of_below (b := b) hlt HB1.out).trans k2).alloc h2.rlt (.cells #[.string x] 9)); have L2 := jj (Loc.new h2 #[.string x] 9); clear h2 k2) | (go_at_call 213; refine (HC.out _ w2.heap.size (.inr K2.out) hz2 (by simp) ((L2.out.cell 0).trans rfl)).mono ?_; rintro e w3 ⟨rfl, hb3⟩; have H3 := jj (H2.out.below hb3); have d0 := ((L2.out.kpt (Kpt.of_below H2.out.rlt hb3)).cell 0).trans rfl; have K3 := jj (K2.out.trans (Kpt.of_below H2.out.rlt hb3)); clear hb3))
   go_ret
   exact ⟨rfl, H3.out, K3.out⟩
end
open T Go.RowKit Go.Shelf
attribute [local go_sem] zat zau zas
section
variable {Av : Nat -> Prop} {B rb b : Nat} {w w' : World} {s s' : PS}
theorem znl (s : PS) : begins s.l = if s.pk.k = 4 ∨ s.pk.k = 5 ∨ s.pk.k = 2 then true else if s.pk.k = 1 then (s.pk.s.toList == zar || s.pk.s.toList == zan || s.pk.s.toList == zbk) else (s.is 7 za3 || s.is 7 zbb) := by
 rw [zzl]
 unfold PS.is
 cases s.l with
 | nil => simp [begins, hdT, kindT, isT]
 | cons t l =>
  simp only [begins, hdT, kindT, isT]
  by_cases h4 : t.k = 4
  ·simp [h4]
  by_cases h5 : t.k = 5
  ·simp [h5]
  by_cases h2 : t.k = 2
  ·simp [h2]
  by_cases h1 : t.k = 1
  ·simp [h1, Bool.or_assoc]
  ·simp [h4, h5, h2, h1]
theorem zab (a : Array UInt8) : (ByteArray.mk a).toList = a.toList := by simp [ByteArray.toList_eq]
theorem isAny2 (s : PS) (x y : List UInt8) : ([(⟨x.toArray⟩ : ByteArray), ⟨y.toArray⟩].any fun z => s.is 7 z.toList) = (s.is 7 x || s.is 7 y) := by simp [zab]
theorem zb4 (h : St Av B rb b w s) {x : ByteArray} {l : List UInt8} (hx : x.toList = l) : Calls Tryz.prog 200 #[.pointer (some ⟨rb, 0, none⟩), .string x] w (BPost Av B rb b w (s.is 7 l) (s.tk 7 l)) := by subst hx; exact zhr h x
theorem zax (h : St Av B rb b w s) {x : ByteArray} {l : List UInt8} (hx : x.toList = l) : Calls Tryz.prog 49 #[.pointer (some ⟨rb, 0, none⟩), .string x] w (BPost Av B rb b w (s.is 1 l) (s.tk 1 l)) := by subst hx; exact zev h x
theorem zbu (h : St Av B rb b w s) (k : Int) {x : ByteArray} {l : List UInt8} (hx : x.toList = l) (hk0 : k ≠ 0) (hk4 : k ≠ 4) : Calls Tryz.prog 83 #[.pointer (some ⟨rb, 0, none⟩), .int .i64 k, .string x] w (VPost Av B rb b w (s.must k l)) := by subst hx; exact zsw h k x hk0 hk4
theorem zgt (h : St Av B rb b w s) : Calls Tryz.prog 182 #[.pointer (some ⟨rb, 0, none⟩)] w fun e w' => e = .returned (.bool (begins s.l)) /\ Below w.heap.size w w' := by
 obtain ⟨p, v, hp, hR⟩ := h.rb_
 obtain ⟨c0, c1, c2, c3, c4⟩ := hp.cells
 have hlt := h.rlt
 have HPK := jj (zbm h hp)
 have H := jj h
 rw [znl]
 have key : ∀ c : Int, s.pk.k = c -> (s.pk.k == c) = true := fun l h => by simpa using h
 have nay : ∀ c : Int, s.pk.k ≠ c -> (s.pk.k == c) = false := fun l h => by simpa using h
 by_cases h4 : s.pk.k = 4
 ·rw [if_pos (.inl h4)]
  have a1 := key _ h4
  clear h hp hR key nay h4
  go_enter Tryz.func182, Tryz.ntmps182
  go_wp2_with (go_at_call 46; refine HPK.out.mono ?_; rintro e w1 ⟨rfl, hb1⟩; have hb := hb1.alloc hb1.size (.cells #[.int .i64 s.pk.k, .string s.pk.s, .int .i64 s.pk.n, .int .i64 s.pk.p] 63); have HB := jj hb; clear hb hb1)
  go_ret
  exact ⟨rfl, HB.out⟩
 by_cases h5 : s.pk.k = 5
 ·rw [if_pos (.inr (.inl h5))]
  have a0 := nay _ h4
  have a1 := key _ h5
  clear h hp hR key nay h4 h5
  go_enter Tryz.func182, Tryz.ntmps182
  go_wp2_with (go_at_call 46; refine HPK.out.mono ?_; rintro e w1 ⟨rfl, hb1⟩; have hb := hb1.alloc hb1.size (.cells #[.int .i64 s.pk.k, .string s.pk.s, .int .i64 s.pk.n, .int .i64 s.pk.p] 63); have HB := jj hb; clear hb hb1)
  go_ret
  exact ⟨rfl, HB.out⟩
 by_cases h2 : s.pk.k = 2
 ·rw [if_pos (.inr (.inr h2))]
  have a0 := nay _ h4
  have a1 := nay _ h5
  have a2 := key _ h2
  clear h hp hR key nay h4 h5 h2
  go_enter Tryz.func182, Tryz.ntmps182
  go_wp2_with (go_at_call 46; refine HPK.out.mono ?_; rintro e w1 ⟨rfl, hb1⟩; have hb := hb1.alloc hb1.size (.cells #[.int .i64 s.pk.k, .string s.pk.s, .int .i64 s.pk.n, .int .i64 s.pk.p] 63); have HB := jj hb; clear hb hb1)
  go_ret
  exact ⟨rfl, HB.out⟩
 rw [if_neg (by rintro (h | h | h); exact h4 h; exact h5 h; exact h2 h)]
 have a0 := nay _ h4
 have a1 := nay _ h5
 have a2 := nay _ h2
 by_cases h1 : s.pk.k = 1
 ·rw [if_pos h1]
  have a3 := key _ h1
  obtain ⟨t1, e1⟩ : ∃ t, (s.pk.s.toList == [116, 114, 117, 101]) = t := ⟨_, rfl⟩
  obtain ⟨t2, e2⟩ : ∃ t, (s.pk.s.toList == [102, 97, 108, 115, 101]) = t := ⟨_, rfl⟩
  obtain ⟨t3, e3⟩ : ∃ t, (s.pk.s.toList == [99, 97, 115, 101]) = t := ⟨_, rfl⟩
  rw [show (s.pk.s.toList == zar) = t1 from e1, show (s.pk.s.toList == zan) = t2 from e2, show (s.pk.s.toList == zbk) = t3 from e3]
  clear h hp hR key nay h4 h5 h2 h1
  cases t1 <;> cases t2 <;> cases t3
  all_goals
   go_enter Tryz.func182, Tryz.ntmps182
   go_wp2_with (go_at_call 46; refine HPK.out.mono ?_; rintro e w1 ⟨rfl, hb1⟩; have hb := hb1.alloc hb1.size (.cells #[.int .i64 s.pk.k, .string s.pk.s, .int .i64 s.pk.n, .int .i64 s.pk.p] 63); have HB := jj hb; clear hb hb1)
   go_ret
   exact ⟨rfl, HB.out⟩
 ·rw [if_neg h1]
  have a3 := nay _ h1
  have HI : Hid (∀ W g, Below w.heap.size w W -> g < W.heap.size -> TxRow W g 0 [⟨#[40]⟩, ⟨#[123]⟩] -> Calls Tryz.prog 86 #[.pointer (some ⟨rb, 0, none⟩), .slice (some ⟨g, 0, none⟩) 2 2] W fun e w' => e = .returned (.bool (s.is 7 za3 || s.is 7 zbb)) /\ Below W.heap.size W w') := jj fun W g hb hg hr =>
   zdd (h.below hb) [⟨#[40]⟩, ⟨#[123]⟩] 2 2 g 0 _ (isAny2 s [40] [123]) rfl (by decide) hg hr
  obtain ⟨t, ht⟩ : ∃ t, (s.is 7 za3 || s.is 7 zbb) = t := ⟨_, rfl⟩
  rw [ht] at HI ⊢
  clear h hp hR key nay h4 h5 h2 h1 ht
  go_enter Tryz.func182, Tryz.ntmps182
  go_wp2_with (first | (go_at_call 46; refine HPK.out.mono ?_; rintro e w1 ⟨rfl, hb1⟩; have hb := (hb1.alloc hb1.size (.cells #[.int .i64 s.pk.k, .string s.pk.s, .int .i64 s.pk.n, .int .i64 s.pk.p] 63)).alloc (by have := hb1.size; simp; omega) (.cells #[.string ⟨#[40]⟩, .string ⟨#[123]⟩] 9); have HB := jj hb; clear hb hb1) | (go_at_call 86; refine (HI.out _ _ HB.out (by simp) (zlq _ _ _ _ _ (by simp))).mono ?_; rintro e w2 ⟨rfl, hb2⟩))
  go_ret
  exact ⟨rfl, HB.out.trans (hb2.mono HB.out.size)⟩
end
open T Go.RowKit Go.Shelf
attribute [local go_sem] zat zau zas
abbrev Z9 : Array Value := #[.int .i64 0, .int .i64 0, .int .i64 0, .int .i64 0, .int .i64 0, .string ⟨#[]⟩, .string ⟨#[]⟩, .slice none 0 0, .int .i64 0]
structure LeafAt (Av : Nat -> Prop) (B rb b : Nat) (w W : World) (s : PS) (t : Tk) (kR kT kN : Nat) (y : Nd) : Prop where
 st : St Av B rb b W s
 kp : Kpt rb b w W
 lr : Loc rb b W kR (Z9) 37
 lt : Loc rb b W kT (tkArr t) 63
 ln : Loc rb b W kN (ndArr y (.slice none 0 0)) 37
 hr : w.heap.size <= kR
 hn : w.heap.size <= kN
 ne : kR ≠ kN
 hB : B <= w.heap.size
section
variable {Av : Nat -> Prop} {B rb b : Nat} {w w' W W' : World} {s s' : PS} {t : Tk} {kR kT kN : Nat} {y : Nd}
theorem LeafAt.next (h : LeafAt Av B rb b w W s t kR kT kN y) (hs : St Av B rb b W' s') (hk : Kpt rb b W W') : LeafAt Av B rb b w W' s' t kR kT kN y :=
 ⟨hs, h.kp.trans hk, h.lr.kpt hk, h.lt.kpt hk, h.ln.kpt hk, h.hr, h.hn, h.ne, h.hB⟩
theorem LeafAt.facts (h : LeafAt Av B rb b w W s t kR kT kN y) : (W.cell? ⟨kT, 0, none⟩ = some (.int .i64 t.k) /\ W.cell? ⟨kT, 1, none⟩ = some (.string t.s) /\ W.cell? ⟨kT, 2, none⟩ = some (.int .i64 t.n) /\ W.cell? ⟨kT, 3, none⟩ = some (.int .i64 t.p)) /\ (∀ j, W.frozen? ⟨kN, j, none⟩ = false) /\ ∀ j, W.frozen? ⟨kR, j, none⟩ = false :=
 ⟨⟨h.lt.cell 0, h.lt.cell 1, h.lt.cell 2, h.lt.cell 3⟩, fun j => h.ln.frozen j, fun j => h.lr.frozen j⟩
theorem zcs (h : St Av B rb b w s) {w1 : World} (hb : Below (w.alloc (.cells Z9 37)).heap.size (w.alloc (.cells Z9 37)) w1) (t : Tk) (p : Int) :
  LeafAt Av B rb b w ((w1.alloc (.cells #[.int .i64 t.k, .string t.s, .int .i64 t.n, .int .i64 t.p] 63)).alloc (.cells #[.int .i64 0, .int .i64 0, .int .i64 0, .int .i64 0, .int .i64 0, .string ⟨#[]⟩, .string ⟨#[]⟩, .slice none 0 0, .int .i64 p] 37)) s t w.heap.size w1.heap.size (w1.heap.size + 1) ⟨0, 0, 0, 0, 0, ⟨#[]⟩, ⟨#[]⟩, [], p⟩ := by
 have h0 := h.alloc (.cells Z9 37)
 have h1 := h0.below hb
 have h2 := h1.alloc (.cells (tkArr t) 63)
 have l0 := (Loc.new h (Z9) 37).kpt (Kpt.of_below h0.rlt hb)
 have hz := hb.size
 simp only [World.size_alloc] at hz
 refine ⟨h2.alloc _, (((Kpt.refl rb b w).alloc h.rlt _).trans (Kpt.of_below h0.rlt hb)).alloc h1.rlt _ |>.alloc h2.rlt _, (l0.alloc h1.rlt _).alloc h2.rlt _, (Loc.new h1 _ _).alloc h2.rlt _, ?_, lrf _, by omega, by omega, h.hB⟩
 have := Loc.new h2 (ndArr ⟨0, 0, 0, 0, 0, ⟨#[]⟩, ⟨#[]⟩, [], p⟩ (.slice none 0 0)) 37
 simp only [World.size_alloc] at this
 exact this
theorem put9 (h : St Av B rb b W s) {k : Nat} {cs : Array Value} (hl : Loc rb b W k cs 37) (hk : B <= k) (v0 v1 v2 v3 v4 v5 v6 v7 v8 : Value) :
  St Av B rb b (((((((((W.setCell ⟨k, 0, none⟩ v0).setCell ⟨k, 1, none⟩ v1).setCell ⟨k, 2, none⟩ v2).setCell ⟨k, 3, none⟩ v3).setCell ⟨k, 4, none⟩ v4).setCell ⟨k, 5, none⟩ v5).setCell ⟨k, 6, none⟩ v6).setCell ⟨k, 7, none⟩ v7).setCell ⟨k, 8, none⟩ v8) s :=
 have a0 := h.loc hl (by decide) hk (j := 0) v0
 have b0 := hl.set (j := 0) v0
 have a1 := a0.loc b0 (by decide) hk (j := 1) v1
 have b1 := b0.set (j := 1) v1
 have a2 := a1.loc b1 (by decide) hk (j := 2) v2
 have b2 := b1.set (j := 2) v2
 have a3 := a2.loc b2 (by decide) hk (j := 3) v3
 have b3 := b2.set (j := 3) v3
 have a4 := a3.loc b3 (by decide) hk (j := 4) v4
 have b4 := b3.set (j := 4) v4
 have a5 := a4.loc b4 (by decide) hk (j := 5) v5
 have b5 := b4.set (j := 5) v5
 have a6 := a5.loc b5 (by decide) hk (j := 6) v6
 have b6 := b5.set (j := 6) v6
 have a7 := a6.loc b6 (by decide) hk (j := 7) v7
 have b7 := b6.set (j := 7) v7
 a7.loc b7 (by decide) hk (j := 8) v8
theorem kput9 (h : Kpt rb b w W) (hr : rb < w.heap.size) {k : Nat} (hk : w.heap.size <= k) (v0 v1 v2 v3 v4 v5 v6 v7 v8 : Value) :
  Kpt rb b w (((((((((W.setCell ⟨k, 0, none⟩ v0).setCell ⟨k, 1, none⟩ v1).setCell ⟨k, 2, none⟩ v2).setCell ⟨k, 3, none⟩ v3).setCell ⟨k, 4, none⟩ v4).setCell ⟨k, 5, none⟩ v5).setCell ⟨k, 6, none⟩ v6).setCell ⟨k, 7, none⟩ v7).setCell ⟨k, 8, none⟩ v8) :=
 ((((((((h.set v0 hk hr).set v1 hk hr).set v2 hk hr).set v3 hk hr).set v4 hk hr).set v5 hk hr).set v6 hk hr).set v7 hk hr).set v8 hk hr
def LSet (Av : Nat -> Prop) (B rb b : Nat) (w W : World) (s : PS) (kR kN : Nat) : Prop := ∃ cs, St Av B rb b W s /\ Kpt rb b w W /\ Loc rb b W kR Z9 37 /\ Loc rb b W kN cs 37 /\ w.heap.size <= kR /\ w.heap.size <= kN /\ kR ≠ kN /\ B <= w.heap.size
theorem LeafAt.toL (h : LeafAt Av B rb b w W s t kR kT kN y) : LSet Av B rb b w W s kR kN := ⟨_, h.st, h.kp, h.lr, h.ln, h.hr, h.hn, h.ne, h.hB⟩
theorem LSet.set (h : LSet Av B rb b w W s kR kN) (j : Nat) (v : Value) : LSet Av B rb b w (W.setCell ⟨kN, j, none⟩ v) s kR kN := by
 obtain ⟨cs, h1, h2, h3, h4, h5, h6, h7, h8⟩ := h
 have hrb := h1.hrb
 exact ⟨_, h1.loc h4 (by decide) (by omega) v, h2.set v h6 (by omega), h3.far v (Ne.symm h7) h4.2.1, h4.set v, h5, h6, h7, h8⟩
theorem LSet.fin (h : LSet Av B rb b w W s kR kN) (v0 v1 v2 v3 v4 v5 v6 v7 v8 : Value) :
  St Av B rb b (((((((((W.setCell ⟨kR, 0, none⟩ v0).setCell ⟨kR, 1, none⟩ v1).setCell ⟨kR, 2, none⟩ v2).setCell ⟨kR, 3, none⟩ v3).setCell ⟨kR, 4, none⟩ v4).setCell ⟨kR, 5, none⟩ v5).setCell ⟨kR, 6, none⟩ v6).setCell ⟨kR, 7, none⟩ v7).setCell ⟨kR, 8, none⟩ v8) s /\
  Kpt rb b w (((((((((W.setCell ⟨kR, 0, none⟩ v0).setCell ⟨kR, 1, none⟩ v1).setCell ⟨kR, 2, none⟩ v2).setCell ⟨kR, 3, none⟩ v3).setCell ⟨kR, 4, none⟩ v4).setCell ⟨kR, 5, none⟩ v5).setCell ⟨kR, 6, none⟩ v6).setCell ⟨kR, 7, none⟩ v7).setCell ⟨kR, 8, none⟩ v8) := by
 obtain ⟨cs, h1, h2, h3, h4, h5, h6, h7, h8⟩ := h
 have hrb := h1.hrb
 exact ⟨put9 h1 h3 (by omega) _ _ _ _ _ _ _ _ _, kput9 h2 (by omega) h5 _ _ _ _ _ _ _ _ _⟩
def NPost (Av : Nat -> Prop) (B rb b : Nat) (w : World) (y : Nd) (s' : PS) (e : Ending) (w' : World) : Prop := e = .returned (.agg (ndArr y (.slice none 0 0))) /\ St Av B rb b w' s' /\ Kpt rb b w w'
end
section
variable {Av : Nat -> Prop} {B rb b : Nat} {w : World} {s : PS}
theorem zh8 {W : World} {x : List UInt8} (h : St Av B rb b W (s.tk 1 x)) (hx : Hid (s.is 1 x = false)) : St Av B rb b W s := by
 unfold PS.tk at h
 rwa [if_neg (by rw [hx.out]; decide)] at h
theorem zm0 (h : St Av B rb b w s) (hw1 : s.is 1 zar = true) : Calls Tryz.prog 207 #[.pointer (some ⟨rb, 0, none⟩)] w (NPost Av B rb b w ({ mk 2 s.pk.p with n := 1 }) (s.nx)) := by
 obtain ⟨p, v, hp, _⟩ := (h.alloc (.cells Z9 37)).rb_
 obtain ⟨c0, c1, c2, c3, c4⟩ := hp.cells
 have HPK := jj (zbm (h.alloc (.cells Z9 37)) hp)
 have H := jj h
 have HS := jj h.pksz
 have HTK : Hid (s.tk 1 zar = s.nx) := jj (by unfold PS.tk; rw [if_pos hw1])
 have g0 : s.is 1 #[116, 114, 117, 101].toList = true := hw1
 clear h hp
 go_enter Tryz.func207, Tryz.ntmps207
 go_wp2_with (first | (go_at_call 49; (with_reducible refine (zax HA1.out.st (zab #[116, 114, 117, 101])).mono ?_); rintro e w2 ⟨rfl, h2, k2⟩; have HA2 := jj (HA1.out.next h2 k2); obtain ⟨⟨t0, t1, t2, t3⟩, fn, fr⟩ := HA2.out.facts; obtain ⟨q0, q1, q2, q3, q4, q5, q6, q7, q8⟩ := zad HA2.out.ln.1; obtain ⟨r0, r1, r2, r3, r4, r5, r6, r7, r8⟩ := zad (x := ⟨0, 0, 0, 0, 0, ⟨#[]⟩, ⟨#[]⟩, [], 0⟩) (v := .slice none 0 0) HA2.out.lr.1; obtain ⟨p2, v2, hp2, _⟩ := HA2.out.st.rb_; have HP2 := jj hp2; obtain ⟨c0, c1, c2, c3, c4⟩ := hp2.cells; clear hp2; clear h2 k2) | (go_at_call 46; refine (HPK.out).mono ?_; rintro e w1 ⟨rfl, hb1⟩; have hz1 : ¬ (w.heap.size = w1.heap.size + 1) := (by have := hb1.size; simp at this; omega); have hz2 : ¬ (w1.heap.size + 1 = w.heap.size) := (by omega); have HA1 := jj (zcs H.out hb1 s.pk s.pk.p); obtain ⟨⟨t0, t1, t2, t3⟩, fn, fr⟩ := HA1.out.facts; obtain ⟨q0, q1, q2, q3, q4, q5, q6, q7, q8⟩ := zad HA1.out.ln.1; obtain ⟨r0, r1, r2, r3, r4, r5, r6, r7, r8⟩ := zad (x := ⟨0, 0, 0, 0, 0, ⟨#[]⟩, ⟨#[]⟩, [], 0⟩) (v := .slice none 0 0) HA1.out.lr.1; obtain ⟨p1, v1, hp1, _⟩ := HA1.out.st.rb_; have HP1 := jj hp1; obtain ⟨c0, c1, c2, c3, c4⟩ := hp1.cells; clear hp1; clear hb1))
 have HL := HA2.out.toL
 rw [show s.tk 1 #[116, 114, 117, 101].toList = s.nx from HTK.out] at HL
 exact bodyPost_ret (v := .agg (ndArr ⟨2, 0, 0, 0, 1, ⟨#[]⟩, ⟨#[]⟩, [], s.pk.p⟩ (.slice none 0 0))) (by simp [results, Tryz.results207, go_sem, ndArr, r0, r1, r2, r3, r4, r5, r6, r7, r8]) rfl ⟨rfl, (LSet.fin ((HL.set _ _).set _ _) _ _ _ _ _ _ _ _ _).1, (LSet.fin ((HL.set _ _).set _ _) _ _ _ _ _ _ _ _ _).2⟩
theorem zmb (h : St Av B rb b w s) (nw1 : s.is 1 zar = false) (hw2 : s.is 1 zan = true) : Calls Tryz.prog 207 #[.pointer (some ⟨rb, 0, none⟩)] w (NPost Av B rb b w (mk 2 s.pk.p) (s.nx)) := by
 obtain ⟨p, v, hp, _⟩ := (h.alloc (.cells Z9 37)).rb_
 obtain ⟨c0, c1, c2, c3, c4⟩ := hp.cells
 have HPK := jj (zbm (h.alloc (.cells Z9 37)) hp)
 have H := jj h
 have HS := jj h.pksz
 have hX1 := jj nw1
 have HTK : Hid (s.tk 1 zan = s.nx) := jj (by unfold PS.tk; rw [if_pos hw2])
 have g0 : s.is 1 #[116, 114, 117, 101].toList = false := nw1
 have g1 : s.is 1 #[102, 97, 108, 115, 101].toList = true := hw2
 clear h hp
 go_enter Tryz.func207, Tryz.ntmps207
 go_wp2_with (first | (go_at_call 49; (with_reducible refine (zax HA2.out.st (zab #[102, 97, 108, 115, 101])).mono ?_); rintro e w3 ⟨rfl, h3, k3⟩; have HA3 := jj (HA2.out.next h3 k3); obtain ⟨⟨t0, t1, t2, t3⟩, fn, fr⟩ := HA3.out.facts; obtain ⟨q0, q1, q2, q3, q4, q5, q6, q7, q8⟩ := zad HA3.out.ln.1; obtain ⟨r0, r1, r2, r3, r4, r5, r6, r7, r8⟩ := zad (x := ⟨0, 0, 0, 0, 0, ⟨#[]⟩, ⟨#[]⟩, [], 0⟩) (v := .slice none 0 0) HA3.out.lr.1; obtain ⟨p3, v3, hp3, _⟩ := HA3.out.st.rb_; have HP3 := jj hp3; obtain ⟨c0, c1, c2, c3, c4⟩ := hp3.cells; clear hp3; clear h3 k3) | (go_at_call 49; (with_reducible refine (zax HA1.out.st (zab #[116, 114, 117, 101])).mono ?_); rintro e w2 ⟨rfl, h2, k2⟩; have HA2 : Hid (LeafAt Av B rb b w w2 s s.pk _ _ _ _) := jj (HA1.out.next (zh8 h2 hX1) k2); obtain ⟨⟨t0, t1, t2, t3⟩, fn, fr⟩ := HA2.out.facts; obtain ⟨q0, q1, q2, q3, q4, q5, q6, q7, q8⟩ := zad HA2.out.ln.1; obtain ⟨r0, r1, r2, r3, r4, r5, r6, r7, r8⟩ := zad (x := ⟨0, 0, 0, 0, 0, ⟨#[]⟩, ⟨#[]⟩, [], 0⟩) (v := .slice none 0 0) HA2.out.lr.1; obtain ⟨p2, v2, hp2, _⟩ := HA2.out.st.rb_; have HP2 := jj hp2; obtain ⟨c0, c1, c2, c3, c4⟩ := hp2.cells; clear hp2; clear h2 k2) | (go_at_call 46; refine (HPK.out).mono ?_; rintro e w1 ⟨rfl, hb1⟩; have hz1 : ¬ (w.heap.size = w1.heap.size + 1) := (by have := hb1.size; simp at this; omega); have hz2 : ¬ (w1.heap.size + 1 = w.heap.size) := (by omega); have HA1 := jj (zcs H.out hb1 s.pk s.pk.p); obtain ⟨⟨t0, t1, t2, t3⟩, fn, fr⟩ := HA1.out.facts; obtain ⟨q0, q1, q2, q3, q4, q5, q6, q7, q8⟩ := zad HA1.out.ln.1; obtain ⟨r0, r1, r2, r3, r4, r5, r6, r7, r8⟩ := zad (x := ⟨0, 0, 0, 0, 0, ⟨#[]⟩, ⟨#[]⟩, [], 0⟩) (v := .slice none 0 0) HA1.out.lr.1; obtain ⟨p1, v1, hp1, _⟩ := HA1.out.st.rb_; have HP1 := jj hp1; obtain ⟨c0, c1, c2, c3, c4⟩ := hp1.cells; clear hp1; clear hb1))
 have HL := HA3.out.toL
 rw [show s.tk 1 #[102, 97, 108, 115, 101].toList = s.nx from HTK.out] at HL
 exact bodyPost_ret (v := .agg (ndArr ⟨2, 0, 0, 0, 0, ⟨#[]⟩, ⟨#[]⟩, [], s.pk.p⟩ (.slice none 0 0))) (by simp [results, Tryz.results207, go_sem, ndArr, r0, r1, r2, r3, r4, r5, r6, r7, r8]) rfl ⟨rfl, (LSet.fin (HL.set _ _) _ _ _ _ _ _ _ _ _).1, (LSet.fin (HL.set _ _) _ _ _ _ _ _ _ _ _).2⟩
theorem zs4 (h : St Av B rb b w s) (nw1 : s.is 1 zar = false) (nw2 : s.is 1 zan = false) (k4 : (s.pk.k == 4) = true) : Calls Tryz.prog 207 #[.pointer (some ⟨rb, 0, none⟩)] w (NPost Av B rb b w ({ mk 1 s.pk.p with n := s.pk.n }) (s.nx)) := by
 obtain ⟨p, v, hp, _⟩ := (h.alloc (.cells Z9 37)).rb_
 obtain ⟨c0, c1, c2, c3, c4⟩ := hp.cells
 have HPK := jj (zbm (h.alloc (.cells Z9 37)) hp)
 have H := jj h
 have HS := jj h.pksz
 have hX1 := jj nw1
 have hX2 := jj nw2
 have g0 : s.is 1 #[116, 114, 117, 101].toList = false := nw1
 have g1 : s.is 1 #[102, 97, 108, 115, 101].toList = false := nw2
 clear h hp
 go_enter Tryz.func207, Tryz.ntmps207
 go_wp2_with (first | (go_at_call 49; (with_reducible refine (zax HA2.out.st (zab #[102, 97, 108, 115, 101])).mono ?_); rintro e w3 ⟨rfl, h3, k3⟩; have HA3 : Hid (LeafAt Av B rb b w w3 s s.pk _ _ _ _) := jj (HA2.out.next (zh8 h3 hX2) k3); obtain ⟨⟨t0, t1, t2, t3⟩, fn, fr⟩ := HA3.out.facts; obtain ⟨q0, q1, q2, q3, q4, q5, q6, q7, q8⟩ := zad HA3.out.ln.1; obtain ⟨r0, r1, r2, r3, r4, r5, r6, r7, r8⟩ := zad (x := ⟨0, 0, 0, 0, 0, ⟨#[]⟩, ⟨#[]⟩, [], 0⟩) (v := .slice none 0 0) HA3.out.lr.1; obtain ⟨p3, v3, hp3, _⟩ := HA3.out.st.rb_; have HP3 := jj hp3; obtain ⟨c0, c1, c2, c3, c4⟩ := hp3.cells; clear hp3; clear h3 k3) | (go_at_call 49; (with_reducible refine (zax HA1.out.st (zab #[116, 114, 117, 101])).mono ?_); rintro e w2 ⟨rfl, h2, k2⟩; have HA2 : Hid (LeafAt Av B rb b w w2 s s.pk _ _ _ _) := jj (HA1.out.next (zh8 h2 hX1) k2); obtain ⟨⟨t0, t1, t2, t3⟩, fn, fr⟩ := HA2.out.facts; obtain ⟨q0, q1, q2, q3, q4, q5, q6, q7, q8⟩ := zad HA2.out.ln.1; obtain ⟨r0, r1, r2, r3, r4, r5, r6, r7, r8⟩ := zad (x := ⟨0, 0, 0, 0, 0, ⟨#[]⟩, ⟨#[]⟩, [], 0⟩) (v := .slice none 0 0) HA2.out.lr.1; obtain ⟨p2, v2, hp2, _⟩ := HA2.out.st.rb_; have HP2 := jj hp2; obtain ⟨c0, c1, c2, c3, c4⟩ := hp2.cells; clear hp2; clear h2 k2) | (go_at_call 125; refine (zgw HA3.out.st HP3.out).mono ?_; rintro e w4 ⟨rfl, h4, k4⟩; have HA4 := jj (HA3.out.next h4 k4); obtain ⟨⟨t0, t1, t2, t3⟩, fn, fr⟩ := HA4.out.facts; obtain ⟨q0, q1, q2, q3, q4, q5, q6, q7, q8⟩ := zad HA4.out.ln.1; obtain ⟨r0, r1, r2, r3, r4, r5, r6, r7, r8⟩ := zad (x := ⟨0, 0, 0, 0, 0, ⟨#[]⟩, ⟨#[]⟩, [], 0⟩) (v := .slice none 0 0) HA4.out.lr.1; obtain ⟨p4, v4, hp4, _⟩ := HA4.out.st.rb_; have HP4 := jj hp4; obtain ⟨c0, c1, c2, c3, c4⟩ := hp4.cells; clear hp4; clear h4 k4) | (go_at_call 46; refine (HPK.out).mono ?_; rintro e w1 ⟨rfl, hb1⟩; have hz1 : ¬ (w.heap.size = w1.heap.size + 1) := (by have := hb1.size; simp at this; omega); have hz2 : ¬ (w1.heap.size + 1 = w.heap.size) := (by omega); have HA1 := jj (zcs H.out hb1 s.pk s.pk.p); obtain ⟨⟨t0, t1, t2, t3⟩, fn, fr⟩ := HA1.out.facts; obtain ⟨q0, q1, q2, q3, q4, q5, q6, q7, q8⟩ := zad HA1.out.ln.1; obtain ⟨r0, r1, r2, r3, r4, r5, r6, r7, r8⟩ := zad (x := ⟨0, 0, 0, 0, 0, ⟨#[]⟩, ⟨#[]⟩, [], 0⟩) (v := .slice none 0 0) HA1.out.lr.1; obtain ⟨p1, v1, hp1, _⟩ := HA1.out.st.rb_; have HP1 := jj hp1; obtain ⟨c0, c1, c2, c3, c4⟩ := hp1.cells; clear hp1; clear hb1))
 have HL := HA4.out.toL
 exact bodyPost_ret (v := .agg (ndArr ⟨1, 0, 0, 0, s.pk.n, ⟨#[]⟩, ⟨#[]⟩, [], s.pk.p⟩ (.slice none 0 0))) (by simp [results, Tryz.results207, go_sem, ndArr, r0, r1, r2, r3, r4, r5, r6, r7, r8]) rfl ⟨rfl, (LSet.fin ((HL.set _ _).set _ _) _ _ _ _ _ _ _ _ _).1, (LSet.fin ((HL.set _ _).set _ _) _ _ _ _ _ _ _ _ _).2⟩
theorem zs1 (h : St Av B rb b w s) (nw1 : s.is 1 zar = false) (nw2 : s.is 1 zan = false) (n4 : (s.pk.k == 4) = false) (k5 : (s.pk.k == 5) = true) : Calls Tryz.prog 207 #[.pointer (some ⟨rb, 0, none⟩)] w (NPost Av B rb b w ({ mk 3 s.pk.p with s := s.pk.s }) (s.nx)) := by
 obtain ⟨p, v, hp, _⟩ := (h.alloc (.cells Z9 37)).rb_
 obtain ⟨c0, c1, c2, c3, c4⟩ := hp.cells
 have HPK := jj (zbm (h.alloc (.cells Z9 37)) hp)
 have H := jj h
 have HS := jj h.pksz
 have hX1 := jj nw1
 have hX2 := jj nw2
 have g0 : s.is 1 #[116, 114, 117, 101].toList = false := nw1
 have g1 : s.is 1 #[102, 97, 108, 115, 101].toList = false := nw2
 clear h hp
 go_enter Tryz.func207, Tryz.ntmps207
 go_wp2_with (first | (go_at_call 49; (with_reducible refine (zax HA2.out.st (zab #[102, 97, 108, 115, 101])).mono ?_); rintro e w3 ⟨rfl, h3, k3⟩; have HA3 : Hid (LeafAt Av B rb b w w3 s s.pk _ _ _ _) := jj (HA2.out.next (zh8 h3 hX2) k3); obtain ⟨⟨t0, t1, t2, t3⟩, fn, fr⟩ := HA3.out.facts; obtain ⟨q0, q1, q2, q3, q4, q5, q6, q7, q8⟩ := zad HA3.out.ln.1; obtain ⟨r0, r1, r2, r3, r4, r5, r6, r7, r8⟩ := zad (x := ⟨0, 0, 0, 0, 0, ⟨#[]⟩, ⟨#[]⟩, [], 0⟩) (v := .slice none 0 0) HA3.out.lr.1; obtain ⟨p3, v3, hp3, _⟩ := HA3.out.st.rb_; have HP3 := jj hp3; obtain ⟨c0, c1, c2, c3, c4⟩ := hp3.cells; clear hp3; clear h3 k3) | (go_at_call 49; (with_reducible refine (zax HA1.out.st (zab #[116, 114, 117, 101])).mono ?_); rintro e w2 ⟨rfl, h2, k2⟩; have HA2 : Hid (LeafAt Av B rb b w w2 s s.pk _ _ _ _) := jj (HA1.out.next (zh8 h2 hX1) k2); obtain ⟨⟨t0, t1, t2, t3⟩, fn, fr⟩ := HA2.out.facts; obtain ⟨q0, q1, q2, q3, q4, q5, q6, q7, q8⟩ := zad HA2.out.ln.1; obtain ⟨r0, r1, r2, r3, r4, r5, r6, r7, r8⟩ := zad (x := ⟨0, 0, 0, 0, 0, ⟨#[]⟩, ⟨#[]⟩, [], 0⟩) (v := .slice none 0 0) HA2.out.lr.1; obtain ⟨p2, v2, hp2, _⟩ := HA2.out.st.rb_; have HP2 := jj hp2; obtain ⟨c0, c1, c2, c3, c4⟩ := hp2.cells; clear hp2; clear h2 k2) | (go_at_call 125; refine (zgw HA3.out.st HP3.out).mono ?_; rintro e w4 ⟨rfl, h4, k4⟩; have HA4 := jj (HA3.out.next h4 k4); obtain ⟨⟨t0, t1, t2, t3⟩, fn, fr⟩ := HA4.out.facts; obtain ⟨q0, q1, q2, q3, q4, q5, q6, q7, q8⟩ := zad HA4.out.ln.1; obtain ⟨r0, r1, r2, r3, r4, r5, r6, r7, r8⟩ := zad (x := ⟨0, 0, 0, 0, 0, ⟨#[]⟩, ⟨#[]⟩, [], 0⟩) (v := .slice none 0 0) HA4.out.lr.1; obtain ⟨p4, v4, hp4, _⟩ := HA4.out.st.rb_; have HP4 := jj hp4; obtain ⟨c0, c1, c2, c3, c4⟩ := hp4.cells; clear hp4; clear h4 k4) | (go_at_call 38; refine (T.zeo _ HS.out _).mono ?_; rintro e w5 ⟨rfl, hb5⟩; have HA5 := jj (HA4.out.next (HA4.out.st.below hb5) (Kpt.of_below HA4.out.st.rlt hb5)); obtain ⟨⟨t0, t1, t2, t3⟩, fn, fr⟩ := HA5.out.facts; obtain ⟨q0, q1, q2, q3, q4, q5, q6, q7, q8⟩ := zad HA5.out.ln.1; obtain ⟨r0, r1, r2, r3, r4, r5, r6, r7, r8⟩ := zad (x := ⟨0, 0, 0, 0, 0, ⟨#[]⟩, ⟨#[]⟩, [], 0⟩) (v := .slice none 0 0) HA5.out.lr.1; obtain ⟨p5, v5, hp5, _⟩ := HA5.out.st.rb_; have HP5 := jj hp5; obtain ⟨c0, c1, c2, c3, c4⟩ := hp5.cells; clear hp5; clear hb5) | (go_at_call 46; refine (HPK.out).mono ?_; rintro e w1 ⟨rfl, hb1⟩; have hz1 : ¬ (w.heap.size = w1.heap.size + 1) := (by have := hb1.size; simp at this; omega); have hz2 : ¬ (w1.heap.size + 1 = w.heap.size) := (by omega); have HA1 := jj (zcs H.out hb1 s.pk s.pk.p); obtain ⟨⟨t0, t1, t2, t3⟩, fn, fr⟩ := HA1.out.facts; obtain ⟨q0, q1, q2, q3, q4, q5, q6, q7, q8⟩ := zad HA1.out.ln.1; obtain ⟨r0, r1, r2, r3, r4, r5, r6, r7, r8⟩ := zad (x := ⟨0, 0, 0, 0, 0, ⟨#[]⟩, ⟨#[]⟩, [], 0⟩) (v := .slice none 0 0) HA1.out.lr.1; obtain ⟨p1, v1, hp1, _⟩ := HA1.out.st.rb_; have HP1 := jj hp1; obtain ⟨c0, c1, c2, c3, c4⟩ := hp1.cells; clear hp1; clear hb1))
 have HL := HA5.out.toL
 exact bodyPost_ret (v := .agg (ndArr ⟨3, 0, 0, 0, 0, ⟨#[]⟩, s.pk.s, [], s.pk.p⟩ (.slice none 0 0))) (by simp [results, Tryz.results207, go_sem, ndArr, r0, r1, r2, r3, r4, r5, r6, r7, r8]) rfl ⟨rfl, (LSet.fin ((HL.set _ _).set _ _) _ _ _ _ _ _ _ _ _).1, (LSet.fin ((HL.set _ _).set _ _) _ _ _ _ _ _ _ _ _).2⟩
theorem zp6 (h : St Av B rb b w s) (nw1 : s.is 1 zar = false) (nw2 : s.is 1 zan = false) (n4 : (s.pk.k == 4) = false) (n5 : (s.pk.k == 5) = false) (k2 : (s.pk.k == 2) = true) : Calls Tryz.prog 207 #[.pointer (some ⟨rb, 0, none⟩)] w (NPost Av B rb b w ({ mk 4 s.pk.p with nm := s.pk.s }) (s.nx)) := by
 obtain ⟨p, v, hp, _⟩ := (h.alloc (.cells Z9 37)).rb_
 obtain ⟨c0, c1, c2, c3, c4⟩ := hp.cells
 have HPK := jj (zbm (h.alloc (.cells Z9 37)) hp)
 have H := jj h
 have HS := jj h.pksz
 have hX1 := jj nw1
 have hX2 := jj nw2
 have HTX : Hid (s.txt 2 = (s.pk.s, s.nx)) := jj (by unfold PS.txt; rw [if_pos (by simpa using k2)])
 have g0 : s.is 1 #[116, 114, 117, 101].toList = false := nw1
 have g1 : s.is 1 #[102, 97, 108, 115, 101].toList = false := nw2
 clear h hp
 go_enter Tryz.func207, Tryz.ntmps207
 go_wp2_with (first | (go_at_call 49; (with_reducible refine (zax HA2.out.st (zab #[102, 97, 108, 115, 101])).mono ?_); rintro e w3 ⟨rfl, h3, k3⟩; have HA3 : Hid (LeafAt Av B rb b w w3 s s.pk _ _ _ _) := jj (HA2.out.next (zh8 h3 hX2) k3); obtain ⟨⟨t0, t1, t2, t3⟩, fn, fr⟩ := HA3.out.facts; obtain ⟨q0, q1, q2, q3, q4, q5, q6, q7, q8⟩ := zad HA3.out.ln.1; obtain ⟨r0, r1, r2, r3, r4, r5, r6, r7, r8⟩ := zad (x := ⟨0, 0, 0, 0, 0, ⟨#[]⟩, ⟨#[]⟩, [], 0⟩) (v := .slice none 0 0) HA3.out.lr.1; obtain ⟨p3, v3, hp3, _⟩ := HA3.out.st.rb_; have HP3 := jj hp3; obtain ⟨c0, c1, c2, c3, c4⟩ := hp3.cells; clear hp3; clear h3 k3) | (go_at_call 49; (with_reducible refine (zax HA1.out.st (zab #[116, 114, 117, 101])).mono ?_); rintro e w2 ⟨rfl, h2, k2⟩; have HA2 : Hid (LeafAt Av B rb b w w2 s s.pk _ _ _ _) := jj (HA1.out.next (zh8 h2 hX1) k2); obtain ⟨⟨t0, t1, t2, t3⟩, fn, fr⟩ := HA2.out.facts; obtain ⟨q0, q1, q2, q3, q4, q5, q6, q7, q8⟩ := zad HA2.out.ln.1; obtain ⟨r0, r1, r2, r3, r4, r5, r6, r7, r8⟩ := zad (x := ⟨0, 0, 0, 0, 0, ⟨#[]⟩, ⟨#[]⟩, [], 0⟩) (v := .slice none 0 0) HA2.out.lr.1; obtain ⟨p2, v2, hp2, _⟩ := HA2.out.st.rb_; have HP2 := jj hp2; obtain ⟨c0, c1, c2, c3, c4⟩ := hp2.cells; clear hp2; clear h2 k2) | (go_at_call 82; refine (zb3 HA3.out.st 2).mono ?_; rintro e w4 ⟨rfl, h4, k4⟩; rw [HTX.out] at h4 ⊢; have HA4 := jj (HA3.out.next h4 k4); obtain ⟨⟨t0, t1, t2, t3⟩, fn, fr⟩ := HA4.out.facts; obtain ⟨q0, q1, q2, q3, q4, q5, q6, q7, q8⟩ := zad HA4.out.ln.1; obtain ⟨r0, r1, r2, r3, r4, r5, r6, r7, r8⟩ := zad (x := ⟨0, 0, 0, 0, 0, ⟨#[]⟩, ⟨#[]⟩, [], 0⟩) (v := .slice none 0 0) HA4.out.lr.1; obtain ⟨p4, v4, hp4, _⟩ := HA4.out.st.rb_; have HP4 := jj hp4; obtain ⟨c0, c1, c2, c3, c4⟩ := hp4.cells; clear hp4; clear h4 k4) | (go_at_call 46; refine (HPK.out).mono ?_; rintro e w1 ⟨rfl, hb1⟩; have hz1 : ¬ (w.heap.size = w1.heap.size + 1) := (by have := hb1.size; simp at this; omega); have hz2 : ¬ (w1.heap.size + 1 = w.heap.size) := (by omega); have HA1 := jj (zcs H.out hb1 s.pk s.pk.p); obtain ⟨⟨t0, t1, t2, t3⟩, fn, fr⟩ := HA1.out.facts; obtain ⟨q0, q1, q2, q3, q4, q5, q6, q7, q8⟩ := zad HA1.out.ln.1; obtain ⟨r0, r1, r2, r3, r4, r5, r6, r7, r8⟩ := zad (x := ⟨0, 0, 0, 0, 0, ⟨#[]⟩, ⟨#[]⟩, [], 0⟩) (v := .slice none 0 0) HA1.out.lr.1; obtain ⟨p1, v1, hp1, _⟩ := HA1.out.st.rb_; have HP1 := jj hp1; obtain ⟨c0, c1, c2, c3, c4⟩ := hp1.cells; clear hp1; clear hb1))
 have HL := HA4.out.toL
 exact bodyPost_ret (v := .agg (ndArr ⟨4, 0, 0, 0, 0, s.pk.s, ⟨#[]⟩, [], s.pk.p⟩ (.slice none 0 0))) (by simp [results, Tryz.results207, go_sem, ndArr, r0, r1, r2, r3, r4, r5, r6, r7, r8]) rfl ⟨rfl, (LSet.fin ((HL.set _ _).set _ _) _ _ _ _ _ _ _ _ _).1, (LSet.fin ((HL.set _ _).set _ _) _ _ _ _ _ _ _ _ _).2⟩
theorem zm3 (h : St Av B rb b w s) (nw1 : s.is 1 zar = false) (nw2 : s.is 1 zan = false) (n4 : (s.pk.k == 4) = false) (n5 : (s.pk.k == 5) = false) (n2 : (s.pk.k == 2) = false) : Calls Tryz.prog 207 #[.pointer (some ⟨rb, 0, none⟩)] w (NPost Av B rb b w (mk 0 s.pk.p) (s.no s.pk.p 5)) := by
 obtain ⟨p, v, hp, _⟩ := (h.alloc (.cells Z9 37)).rb_
 obtain ⟨c0, c1, c2, c3, c4⟩ := hp.cells
 have HPK := jj (zbm (h.alloc (.cells Z9 37)) hp)
 have H := jj h
 have HS := jj h.pksz
 have hX1 := jj nw1
 have hX2 := jj nw2
 have g0 : s.is 1 #[116, 114, 117, 101].toList = false := nw1
 have g1 : s.is 1 #[102, 97, 108, 115, 101].toList = false := nw2
 clear h hp
 go_enter Tryz.func207, Tryz.ntmps207
 go_wp2_with (first | (go_at_call 49; (with_reducible refine (zax HA2.out.st (zab #[102, 97, 108, 115, 101])).mono ?_); rintro e w3 ⟨rfl, h3, k3⟩; have HA3 : Hid (LeafAt Av B rb b w w3 s s.pk _ _ _ _) := jj (HA2.out.next (zh8 h3 hX2) k3); obtain ⟨⟨t0, t1, t2, t3⟩, fn, fr⟩ := HA3.out.facts; obtain ⟨q0, q1, q2, q3, q4, q5, q6, q7, q8⟩ := zad HA3.out.ln.1; obtain ⟨r0, r1, r2, r3, r4, r5, r6, r7, r8⟩ := zad (x := ⟨0, 0, 0, 0, 0, ⟨#[]⟩, ⟨#[]⟩, [], 0⟩) (v := .slice none 0 0) HA3.out.lr.1; obtain ⟨p3, v3, hp3, _⟩ := HA3.out.st.rb_; have HP3 := jj hp3; obtain ⟨c0, c1, c2, c3, c4⟩ := hp3.cells; clear hp3; clear h3 k3) | (go_at_call 49; (with_reducible refine (zax HA1.out.st (zab #[116, 114, 117, 101])).mono ?_); rintro e w2 ⟨rfl, h2, k2⟩; have HA2 : Hid (LeafAt Av B rb b w w2 s s.pk _ _ _ _) := jj (HA1.out.next (zh8 h2 hX1) k2); obtain ⟨⟨t0, t1, t2, t3⟩, fn, fr⟩ := HA2.out.facts; obtain ⟨q0, q1, q2, q3, q4, q5, q6, q7, q8⟩ := zad HA2.out.ln.1; obtain ⟨r0, r1, r2, r3, r4, r5, r6, r7, r8⟩ := zad (x := ⟨0, 0, 0, 0, 0, ⟨#[]⟩, ⟨#[]⟩, [], 0⟩) (v := .slice none 0 0) HA2.out.lr.1; obtain ⟨p2, v2, hp2, _⟩ := HA2.out.st.rb_; have HP2 := jj hp2; obtain ⟨c0, c1, c2, c3, c4⟩ := hp2.cells; clear hp2; clear h2 k2) | (go_at_call 47; refine (zbj HA3.out.st _ 5).mono ?_; rintro e w4 ⟨rfl, h4, k4⟩; have HA4 := jj (HA3.out.next h4 k4); obtain ⟨⟨t0, t1, t2, t3⟩, fn, fr⟩ := HA4.out.facts; obtain ⟨q0, q1, q2, q3, q4, q5, q6, q7, q8⟩ := zad HA4.out.ln.1; obtain ⟨r0, r1, r2, r3, r4, r5, r6, r7, r8⟩ := zad (x := ⟨0, 0, 0, 0, 0, ⟨#[]⟩, ⟨#[]⟩, [], 0⟩) (v := .slice none 0 0) HA4.out.lr.1; obtain ⟨p4, v4, hp4, _⟩ := HA4.out.st.rb_; have HP4 := jj hp4; obtain ⟨c0, c1, c2, c3, c4⟩ := hp4.cells; clear hp4; clear h4 k4) | (go_at_call 46; refine (HPK.out).mono ?_; rintro e w1 ⟨rfl, hb1⟩; have hz1 : ¬ (w.heap.size = w1.heap.size + 1) := (by have := hb1.size; simp at this; omega); have hz2 : ¬ (w1.heap.size + 1 = w.heap.size) := (by omega); have HA1 := jj (zcs H.out hb1 s.pk s.pk.p); obtain ⟨⟨t0, t1, t2, t3⟩, fn, fr⟩ := HA1.out.facts; obtain ⟨q0, q1, q2, q3, q4, q5, q6, q7, q8⟩ := zad HA1.out.ln.1; obtain ⟨r0, r1, r2, r3, r4, r5, r6, r7, r8⟩ := zad (x := ⟨0, 0, 0, 0, 0, ⟨#[]⟩, ⟨#[]⟩, [], 0⟩) (v := .slice none 0 0) HA1.out.lr.1; obtain ⟨p1, v1, hp1, _⟩ := HA1.out.st.rb_; have HP1 := jj hp1; obtain ⟨c0, c1, c2, c3, c4⟩ := hp1.cells; clear hp1; clear hb1))
 have HL := HA4.out.toL
 exact bodyPost_ret (v := .agg (ndArr ⟨0, 0, 0, 0, 0, ⟨#[]⟩, ⟨#[]⟩, [], s.pk.p⟩ (.slice none 0 0))) (by simp [results, Tryz.results207, go_sem, ndArr, r0, r1, r2, r3, r4, r5, r6, r7, r8]) rfl ⟨rfl, (LSet.fin HL _ _ _ _ _ _ _ _ _).1, (LSet.fin HL _ _ _ _ _ _ _ _ _).2⟩
end
end Go.Proofs.YtjakeidbajkdcaaGreatDoor.A
