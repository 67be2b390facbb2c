/- Joined by program: PFind. -/
import Derived.Test.YteikpeaakmbihaaDoorG06
import Derived.Test.YteikpeaakmbihaaDoorG18
/- slices.Contains over whole numbers; slices.ContainsFunc over nodes: does a let rec's A stand where no EFun is? -/
namespace Go.Proofs.YteikpeaakmbihaaDoor.T
open Go.RowKit
/-- Whole numbers lie from an address's beginning on. -/
def Row0 (W : World) (g : Nat) (U : List Int) : Prop := ∀ j z, U[j]? = some z → W.cell? ⟨g, j, none⟩ = some (.int .i64 z)
theorem ret_i {a b : Int} (h : a = b) : Ending.returned (.int .i64 a) = .returned (.int .i64 b) := by rw [h]
def IxPost (l : List Int) (v : Int) (w : World) (e : Ending) (w' : World) : Prop := (∃ r : Int, e = .returned (.int .i64 r) ∧ (decide (0 ≤ r) = l.contains v)) ∧ w = w'
set_option maxHeartbeats 2000000 in
theorem index_any (U : List Int) (g n c : Nat) (v : Int) (w : World) (hn : n ≤ U.length) (hm : n ≤ 1000000) (HU : Hid (Row0 w g U)) :
    Calls Tryd.prog 87 #[.slice (some ⟨g, 0, none⟩) n c, .int .i64 v] w (IxPost (U.take n) v w) := by
  go_enter Tryd.func87, Tryd.ntmps87
  go_wp2
  go_loop [8] (fun i => ∃ q : Nat, i = .int .i64 (q : Int) ∧ q ≤ n ∧ Hid ((U.take q).contains v = false)) (fun i => n - (intOf i).toNat)
  case atStart => exact ⟨0, rfl, Nat.zero_le _, Lib.hid (by simp)⟩
  case round =>
    obtain ⟨q, rfl, hq, HC⟩ := hrel
    by_cases hlt : q < n
    · obtain ⟨z, hz⟩ : ∃ z, U[q]? = some z := ⟨_, List.getElem?_eq_getElem (by omega)⟩
      have hc := HU.out q z hz
      by_cases he : v = z
      · have hb : (v == z) = true := by simpa using he
        have HR : Hid ((U.take n).contains v = true) := Lib.hid (by
          rw [List.contains_iff_mem]
          exact List.mem_of_getElem? (i := q) (by rw [List.getElem?_take, if_pos hlt, hz, he]))
        subst he
        clear hz
        go_wp2
        go_ret
        exact ⟨⟨_, rfl, by rw [HR.out]; simp⟩, rfl⟩
      · have hb : (v == z) = false := by simpa using he
        have HN : Hid ((U.take (q + 1)).contains v = false) := Lib.hid (by
          rw [take_snoc U q z hz]
          have := HC.out
          simp only [List.contains_eq_mem, List.mem_append, List.mem_singleton, decide_eq_false_iff_not] at this ⊢
          rintro (h | h)
          · exact this h
          · exact he h)
        clear hz he
        go_wp2
        go_round
        case rel => exact ⟨q + 1, by go_num, by omega, HN⟩
        case measure => simp [intOf]; omega
    · obtain rfl : q = n := by omega
      go_wp2
      go_ret
      exact ⟨⟨_, rfl, by rw [HC.out]; rfl⟩, rfl⟩
theorem contains_any (U : List Int) (g n c : Nat) (v : Int) (b : Bool) (hb : (U.take n).contains v = b) (w : World) (hn : n ≤ U.length) (hm : n ≤ 1000000) (HU : Hid (Row0 w g U)) :
    Calls Tryd.prog 74 #[.slice (some ⟨g, 0, none⟩) n c, .int .i64 v] w fun e w' => e = .returned (.bool b) ∧ w = w' := by
  have HB := Lib.hid hb
  clear hb
  go_enter Tryd.func74, Tryd.ntmps74
  go_wp2_with (go_at_call 87; refine (index_any U g n c v _ hn hm HU).mono ?_; rintro e w' ⟨⟨r, rfl, hr⟩, rfl⟩)
  go_ret
  exact ⟨ret_b (by have := HB.out; simpa using this), rfl⟩
/-- Nodes from an address on. -/
def NdsAt (B : Nat) (W : World) (b o : Nat) (l : List Nd) : Prop := ∀ j x, l[j]? = some x → NdAt B W b (o + j * 9) x
theorem NdsAt.below {B : Nat} {W W' : World} {b o : Nat} {l : List Nd} (h : NdsAt B W b o l) (hb : Below B W W') (hlt : b < B) : NdsAt B W' b o l := fun j x hj => (h j x hj).below hb hlt
theorem NdsAt.mono {B B' : Nat} {W : World} {b o : Nat} {l : List Nd} (h : NdsAt B W b o l) (hb : B ≤ B') : NdsAt B' W b o l := fun j x hj => (h j x hj).mono hb
/-- A let rec whose A is no EFun. -/
def recBad (l : List Nd) (x : Nd) : Bool := (x.kind == 8) && !((l[x.a.toNat]?.map Nd.kind) == some 5)
set_option maxRecDepth 100000 in
set_option maxHeartbeats 4000000 in
theorem rec58 (l : List Nd) (L c b o bx : Nat) (HL : Hid (l.length = L)) (x : Nd) (A : Option Addr) (n cp : Nat) (w : World) (B : Nat) (_hBw : B ≤ w.heap.size) (hbx : bx < w.heap.size) (hb : b < w.heap.size) (hcx : w.cell? ⟨bx, 0, none⟩ = some (.slice (some ⟨b, o, none⟩) L c)) (HN : Hid (NdsAt B w b o l)) (_hbB : b < B) (ha : x.kind = 8 → 0 ≤ x.a ∧ x.a < (L : Int)) :
    Calls Tryd.prog 86 #[.agg (ndArr x (.slice A n cp)), .pointer (some ⟨bx, 0, none⟩)] w fun e w' => e = .returned (.bool (recBad l x)) ∧ Below w.heap.size w w' := by
  obtain ⟨k, a, b1, c1, n1, nm, s, fl, pos⟩ := x
  unfold ndArr
  simp only at ha ⊢
  by_cases hk : k = 8
  · subst hk
    obtain ⟨h0, h1⟩ := ha rfl
    obtain ⟨q, rfl⟩ := Int.eq_ofNat_of_zero_le h0
    have hql : q < L := by omega
    obtain ⟨y, hy⟩ : ∃ y, l[q]? = some y := ⟨_, List.getElem?_eq_getElem (by rw [HL.out]; exact hql)⟩
    obtain ⟨v, hv, m0, _⟩ := HN.out q y hy
    have c0 := cell_under1 w (.cells #[.int .i64 8, .int .i64 (q : Int), .int .i64 b1, .int .i64 c1, .int .i64 n1, .string nm, .string s, .slice A n cp, .int .i64 pos] 27) b (o + q * 9) hb
    rw [m0] at c0
    have c2 := cell_under1 w (.cells #[.int .i64 8, .int .i64 (q : Int), .int .i64 b1, .int .i64 c1, .int .i64 n1, .string nm, .string s, .slice A n cp, .int .i64 pos] 27) bx 0 hbx
    rw [hcx] at c2
    have HR : Hid (recBad l ⟨8, (q : Int), b1, c1, n1, nm, s, fl, pos⟩ = !(y.kind == 5)) := Lib.hid (by simp [recBad, hy])
    rw [HR.out]
    obtain ⟨kk, hkk⟩ : ∃ kk, y.kind = kk := ⟨_, rfl⟩
    rw [hkk] at m0 c0 ⊢
    clear hkk hv hy HR m0
    by_cases h5 : kk = 5
    · subst h5
      go_enter Tryd.func86, Tryd.ntmps86
      go_wp2
      go_ret
      exact ⟨rfl, (Below.refl _ w).alloc (Nat.le_refl _) _⟩
    · have h5b : (kk != 5) = true := by simpa using h5
      have h5c : (kk == 5) = false := by simpa using h5
      go_enter Tryd.func86, Tryd.ntmps86
      go_wp2
      go_ret
      exact ⟨ret_b (by simp), (Below.refl _ w).alloc (Nat.le_refl _) _⟩
  · have hkb := neI hk
    have HR : Hid (recBad l ⟨k, a, b1, c1, n1, nm, s, fl, pos⟩ = false) := Lib.hid (by simp [recBad, hkb])
    rw [HR.out]
    clear hk ha
    go_enter Tryd.func86, Tryd.ntmps86
    go_wp2
    go_ret
    exact ⟨rfl, (Below.refl _ w).alloc (Nat.le_refl _) _⟩
def FxPost (t : Bool) (w : World) (e : Ending) (w' : World) : Prop := (∃ r : Int, e = .returned (.int .i64 r) ∧ (decide (0 ≤ r) = t)) ∧ Below w.heap.size w w'
theorem any_no {α : Type} (p : α → Bool) (l : List α) (k : Nat) (x : α) (h : l[k]? = some x) (ha : (l.take k).any p = false) (hx : p x = false) : (l.take (k + 1)).any p = false := by
  rw [take_snoc l k x h, List.any_append, ha]; simp [hx]
theorem any_yes {α : Type} (p : α → Bool) (l : List α) (k : Nat) (x : α) (h : l[k]? = some x) (hx : p x = true) : l.any p = true :=
  List.any_eq_true.2 ⟨x, List.mem_of_getElem? h, hx⟩
set_option maxRecDepth 100000 in
set_option maxHeartbeats 4000000 in
theorem idxf_any (l : List Nd) (L c b o bx : Nat) (HL : Hid (l.length = L)) (hL : L ≤ 1000000) (w : World) (hbx : bx < w.heap.size) (hb : b < w.heap.size) (hcx : w.cell? ⟨bx, 0, none⟩ = some (.slice (some ⟨b, o, none⟩) L c)) (HN : Hid (NdsAt w.heap.size w b o l)) (HA : Hid (∀ x ∈ l, x.kind = 8 → 0 ≤ x.a ∧ x.a < (L : Int))) :
    Calls Tryd.prog 94 #[.slice (some ⟨b, o, none⟩) L c, .func (.func 86) #[] #[.pointer (some ⟨bx, 0, none⟩)]] w (FxPost (l.any (recBad l)) w) := by
  go_enter Tryd.func94, Tryd.ntmps94
  go_wp2
  go_loopw [8] (fun i wr => ∃ q : Nat, i = .int .i64 (q : Int) ∧ q ≤ L ∧ Hid ((l.take q).any (recBad l) = false) ∧ Hid (Below w.heap.size w wr)) (fun i _ => L - (intOf i).toNat)
  case atStart => exact ⟨0, rfl, Nat.zero_le _, Lib.hid (by simp), Lib.hid (Below.refl _ _)⟩
  case round =>
    obtain ⟨q, rfl, hq, HC, HB⟩ := hrel
    have hsz := HB.out.size
    by_cases hlt : q < L
    · obtain ⟨x, hx⟩ : ∃ x, l[q]? = some x := ⟨_, List.getElem?_eq_getElem (by rw [HL.out]; exact hlt)⟩
      obtain ⟨fv, hfl, m0, m1, m2, m3, m4, m5, m6, m7, m8⟩ := (HN.out.below HB.out hb) q x hx
      obtain ⟨FA, fc, rfl, _⟩ := hfl
      have hcx' := (HB.out.cell (p := ⟨bx, 0, none⟩) hbx).trans hcx
      have HNW : Hid (NdsAt w.heap.size wr b o l) := Lib.hid (HN.out.below HB.out hb)
      have HAX : Hid (x.kind = 8 → 0 ≤ x.a ∧ x.a < (L : Int)) := Lib.hid (HA.out x (List.mem_of_getElem? hx))
      cases hp : recBad l x with
      | true =>
        have HY := Lib.hid (any_yes (recBad l) l q x hx hp)
        have HP := Lib.hid hp
        clear hx hp
        go_wp2_with (go_at_call 86; refine (rec58 l L c b o bx HL x FA _ fc wr w.heap.size hsz (by omega) (by omega) hcx' HNW hb HAX.out).mono ?_; rintro e w1 ⟨rfl, hb1⟩; rw [HP.out]; have HBB := Lib.hid hb1; clear hb1)
        go_ret
        exact ⟨⟨_, rfl, by rw [HY.out]; simp⟩, HB.out.trans (HBB.out.mono hsz)⟩
      | false =>
        have HY := Lib.hid (any_no (recBad l) l q x hx HC.out hp)
        have HP := Lib.hid hp
        clear hx hp
        go_wp2_with (go_at_call 86; refine (rec58 l L c b o bx HL x FA _ fc wr w.heap.size hsz (by omega) (by omega) hcx' HNW hb HAX.out).mono ?_; rintro e w1 ⟨rfl, hb1⟩; rw [HP.out]; have HBB := Lib.hid hb1; clear hb1)
        go_roundw
        case rel => exact ⟨q + 1, by go_num, by omega, HY, Lib.hid (HB.out.trans (HBB.out.mono hsz))⟩
        case measure => simp [intOf]; omega
    · obtain rfl : q = L := by omega
      go_wp2
      go_ret
      exact ⟨⟨_, rfl, by have := HC.out; rw [List.take_of_length_le (by rw [HL.out]; omega)] at this; rw [this]; rfl⟩, HB.out⟩
theorem contf_any (l : List Nd) (L c b o bx : Nat) (HL : Hid (l.length = L)) (hL : L ≤ 1000000) (t : Bool) (ht : l.any (recBad l) = t) (w : World) (hbx : bx < w.heap.size) (hb : b < w.heap.size) (hcx : w.cell? ⟨bx, 0, none⟩ = some (.slice (some ⟨b, o, none⟩) L c)) (HN : Hid (NdsAt w.heap.size w b o l)) (HA : Hid (∀ x ∈ l, x.kind = 8 → 0 ≤ x.a ∧ x.a < (L : Int))) :
    Calls Tryd.prog 85 #[.slice (some ⟨b, o, none⟩) L c, .func (.func 86) #[] #[.pointer (some ⟨bx, 0, none⟩)]] w fun e w' => e = .returned (.bool t) ∧ Below w.heap.size w w' := by
  have HC := Lib.hid (idxf_any l L c b o bx HL hL w hbx hb hcx HN HA)
  rw [ht] at HC
  clear ht
  go_enter Tryd.func85, Tryd.ntmps85
  go_wp2_with (go_at_call 94; refine HC.out.mono ?_; rintro e w1 ⟨⟨r, rfl, hr⟩, hb1⟩)
  go_ret
  exact ⟨ret_b (by first | exact hr | simp), hb1⟩
end Go.Proofs.YteikpeaakmbihaaDoor.T
