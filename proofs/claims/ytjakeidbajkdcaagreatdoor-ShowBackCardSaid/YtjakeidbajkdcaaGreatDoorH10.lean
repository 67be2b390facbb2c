/- Joined by program. -/
import Derived.Test.YtjakeidbajkdcaaGreatDoorH05
import Derived.Test.YtjakeidbajkdcaaGreatDoorH09
import Derived.Test.YtjakeidbajkdcaaGreatDoorH00
import Derived.Deep.RegionHeld
import Derived.Deep.RegionLaw
set_option maxRecDepth 100000
set_option maxHeartbeats 8000000
namespace Go.Proofs.YtjakeidbajkdcaaGreatDoor.T
open Go.RowKit
def Row0 (W : World) (g : Nat) (U : List Int) : Prop := ∀ j z, U[j]? = some z -> W.cell? ⟨g, j, none⟩ = some (.int .i64 z)
theorem ret_i {a b : Int} (h : a = b) : Ending.returned (.int .i64 a) = .returned (.int .i64 b) := by rw [h]
def IxPost (l : List Int) (v : Int) (w : World) (e : Ending) (w' : World) : Prop := (∃ r : Int, e = .returned (.int .i64 r) /\ (decide (0 <= r) = l.contains v)) /\ w = w'
theorem index_any (U : List Int) (g n c : Nat) (v : Int) (w : World) (hn : n <= U.length) (hm : n <= 1000000) (HU : Hid (Row0 w g U)) :
    Calls Tryz.prog 167 #[.slice (some ⟨g, 0, none⟩) n c, .int .i64 v] w (IxPost (U.take n) v w) := by
  go_enter Tryz.func167, Tryz.ntmps167
  go_wp2
  go_loop [8] (fun i => ∃ q : Nat, i = .int .i64 (q : Int) /\ q <= n /\ Hid ((U.take q).contains v = false)) (fun i => n - (intOf i).toNat)
  case atStart => exact ⟨0, rfl, Nat.zero_le _, Lib.hid (by simp)⟩
  case round =>
    obtain ⟨q, rfl, hq, HC⟩ := hrel
    by_cases hlt : q < n
    · obtain ⟨z, hz⟩ : ∃ z, U[q]? = some z := ⟨_, List.getElem?_eq_getElem (by omega)⟩
      have hc := HU.out q z hz
      by_cases he : v = z
      · have hb : (v == z) = true := by simpa using he
        have HR : Hid ((U.take n).contains v = true) := Lib.hid (by
          rw [List.contains_iff_mem]
          exact List.mem_of_getElem? (i := q) (by rw [List.getElem?_take, if_pos hlt, hz, he]))
        subst he
        clear hz
        go_wp2
        go_ret
        exact ⟨⟨_, rfl, by rw [HR.out]; simp⟩, rfl⟩
      · have hb : (v == z) = false := by simpa using he
        have HN : Hid ((U.take (q + 1)).contains v = false) := Lib.hid (by
          rw [take_snoc U q z hz]
          have := HC.out
          simp only [List.contains_eq_mem, List.mem_append, List.mem_singleton, decide_eq_false_iff_not] at this ⊢
          rintro (h | h)
          · exact this h
          · exact he h)
        clear hz he
        go_wp2
        go_round
        case rel => exact ⟨q + 1, by go_num, by omega, HN⟩
        case measure => simp [intOf]; omega
    · obtain rfl : q = n := by omega
      go_wp2
      go_ret
      exact ⟨⟨_, rfl, by rw [HC.out]; rfl⟩, rfl⟩
theorem contains_any (U : List Int) (g n c : Nat) (v : Int) (b : Bool) (hb : (U.take n).contains v = b) (w : World) (hn : n <= U.length) (hm : n <= 1000000) (HU : Hid (Row0 w g U)) :
    Calls Tryz.prog 141 #[.slice (some ⟨g, 0, none⟩) n c, .int .i64 v] w fun e w' => e = .returned (.bool b) /\ w = w' := by
  have HB := Lib.hid hb
  clear hb
  go_enter Tryz.func141, Tryz.ntmps141
  go_wp2_with (go_at_call 167; refine (index_any U g n c v _ hn hm HU).mono ?_; rintro e w' ⟨⟨r, rfl, hr⟩, rfl⟩)
  go_ret
  exact ⟨ret_b (by have := HB.out; simpa using this), rfl⟩
def NdsAt (B : Nat) (W : World) (b o : Nat) (l : List Nd) : Prop := ∀ j x, l[j]? = some x -> NdAt B W b (o + j * 9) x
theorem NdsAt.below {B : Nat} {W W' : World} {b o : Nat} {l : List Nd} (h : NdsAt B W b o l) (hb : Below B W W') (hlt : b < B) : NdsAt B W' b o l := fun j x hj => (h j x hj).below hb hlt
theorem NdsAt.mono {B B' : Nat} {W : World} {b o : Nat} {l : List Nd} (h : NdsAt B W b o l) (hb : B <= B') : NdsAt B' W b o l := fun j x hj => (h j x hj).mono hb
def recBad (l : List Nd) (x : Nd) : Bool := (x.kind == 8) && !((l[x.a.toNat]?.map Nd.kind) == some 5)
theorem rec58 (l : List Nd) (L c b o bx : Nat) (HL : Hid (l.length = L)) (x : Nd) (A : Option Addr) (n cp : Nat) (w : World) (B : Nat) (_hBw : B <= w.heap.size) (hbx : bx < w.heap.size) (hb : b < w.heap.size) (hcx : w.cell? ⟨bx, 0, none⟩ = some (.slice (some ⟨b, o, none⟩) L c)) (HN : Hid (NdsAt B w b o l)) (_hbB : b < B) (ha : x.kind = 8 -> 0 <= x.a /\ x.a < (L : Int)) :
    Calls Tryz.prog 108 #[.agg (ndArr x (.slice A n cp)), .pointer (some ⟨bx, 0, none⟩)] w fun e w' => e = .returned (.bool (recBad l x)) /\ Below w.heap.size w w' := by
  obtain ⟨k, a, b1, c1, n1, nm, s, fl, pos⟩ := x
  unfold ndArr
  simp only at ha ⊢
  by_cases hk : k = 8
  · subst hk
    obtain ⟨h0, h1⟩ := ha rfl
    obtain ⟨q, rfl⟩ := Int.eq_ofNat_of_zero_le h0
    have hql : q < L := by omega
    obtain ⟨y, hy⟩ : ∃ y, l[q]? = some y := ⟨_, List.getElem?_eq_getElem (by rw [HL.out]; exact hql)⟩
    obtain ⟨v, hv, m0, _⟩ := HN.out q y hy
    have c0 := cell_under1 w (.cells #[.int .i64 8, .int .i64 (q : Int), .int .i64 b1, .int .i64 c1, .int .i64 n1, .string nm, .string s, .slice A n cp, .int .i64 pos] 37) b (o + q * 9) hb
    rw [m0] at c0
    have c2 := cell_under1 w (.cells #[.int .i64 8, .int .i64 (q : Int), .int .i64 b1, .int .i64 c1, .int .i64 n1, .string nm, .string s, .slice A n cp, .int .i64 pos] 37) bx 0 hbx
    rw [hcx] at c2
    have HR : Hid (recBad l ⟨8, (q : Int), b1, c1, n1, nm, s, fl, pos⟩ = !(y.kind == 5)) := Lib.hid (by simp [recBad, hy])
    rw [HR.out]
    obtain ⟨kk, hkk⟩ : ∃ kk, y.kind = kk := ⟨_, rfl⟩
    rw [hkk] at m0 c0 ⊢
    clear hkk hv hy HR m0
    by_cases h5 : kk = 5
    · subst h5
      go_enter Tryz.func108, Tryz.ntmps108
      go_wp2
      go_ret
      exact ⟨rfl, (Below.refl _ w).alloc (Nat.le_refl _) _⟩
    · have h5b : (kk != 5) = true := by simpa using h5
      have h5c : (kk == 5) = false := by simpa using h5
      go_enter Tryz.func108, Tryz.ntmps108
      go_wp2
      go_ret
      exact ⟨ret_b (by simp), (Below.refl _ w).alloc (Nat.le_refl _) _⟩
  · have hkb := neI hk
    have HR : Hid (recBad l ⟨k, a, b1, c1, n1, nm, s, fl, pos⟩ = false) := Lib.hid (by simp [recBad, hkb])
    rw [HR.out]
    clear hk ha
    go_enter Tryz.func108, Tryz.ntmps108
    go_wp2
    go_ret
    exact ⟨rfl, (Below.refl _ w).alloc (Nat.le_refl _) _⟩
def FxPost (t : Bool) (w : World) (e : Ending) (w' : World) : Prop := (∃ r : Int, e = .returned (.int .i64 r) /\ (decide (0 <= r) = t)) /\ Below w.heap.size w w'
theorem any_no {α : Type} (p : α -> Bool) (l : List α) (k : Nat) (x : α) (h : l[k]? = some x) (ha : (l.take k).any p = false) (hx : p x = false) : (l.take (k + 1)).any p = false := by
  rw [take_snoc l k x h, List.any_append, ha]; simp [hx]
theorem any_yes {α : Type} (p : α -> Bool) (l : List α) (k : Nat) (x : α) (h : l[k]? = some x) (hx : p x = true) : l.any p = true :=
  List.any_eq_true.2 ⟨x, List.mem_of_getElem? h, hx⟩
theorem idxf_any (l : List Nd) (L c b o bx : Nat) (HL : Hid (l.length = L)) (hL : L <= 1000000) (w : World) (hbx : bx < w.heap.size) (hb : b < w.heap.size) (hcx : w.cell? ⟨bx, 0, none⟩ = some (.slice (some ⟨b, o, none⟩) L c)) (HN : Hid (NdsAt w.heap.size w b o l)) (HA : Hid (∀ x ∈ l, x.kind = 8 -> 0 <= x.a /\ x.a < (L : Int))) :
    Calls Tryz.prog 130 #[.slice (some ⟨b, o, none⟩) L c, .func (.func 108) #[] #[.pointer (some ⟨bx, 0, none⟩)]] w (FxPost (l.any (recBad l)) w) := by
  go_enter Tryz.func130, Tryz.ntmps130
  go_wp2
  go_loopw [8] (fun i wr => ∃ q : Nat, i = .int .i64 (q : Int) /\ q <= L /\ Hid ((l.take q).any (recBad l) = false) /\ Hid (Below w.heap.size w wr)) (fun i _ => L - (intOf i).toNat)
  case atStart => exact ⟨0, rfl, Nat.zero_le _, Lib.hid (by simp), Lib.hid (Below.refl _ _)⟩
  case round =>
    obtain ⟨q, rfl, hq, HC, HB⟩ := hrel
    have hsz := HB.out.size
    by_cases hlt : q < L
    · obtain ⟨x, hx⟩ : ∃ x, l[q]? = some x := ⟨_, List.getElem?_eq_getElem (by rw [HL.out]; exact hlt)⟩
      obtain ⟨fv, hfl, m0, m1, m2, m3, m4, m5, m6, m7, m8⟩ := (HN.out.below HB.out hb) q x hx
      obtain ⟨FA, fc, rfl, _⟩ := hfl
      have hcx' := (HB.out.cell (p := ⟨bx, 0, none⟩) hbx).trans hcx
      have HNW : Hid (NdsAt w.heap.size wr b o l) := Lib.hid (HN.out.below HB.out hb)
      have HAX : Hid (x.kind = 8 -> 0 <= x.a /\ x.a < (L : Int)) := Lib.hid (HA.out x (List.mem_of_getElem? hx))
      cases hp : recBad l x with
      | true =>
        have HY := Lib.hid (any_yes (recBad l) l q x hx hp)
        have HP := Lib.hid hp
        clear hx hp
        go_wp2_with (go_at_call 108; refine (rec58 l L c b o bx HL x FA _ fc wr w.heap.size hsz (by omega) (by omega) hcx' HNW hb HAX.out).mono ?_; rintro e w1 ⟨rfl, hb1⟩; rw [HP.out]; have HBB := Lib.hid hb1; clear hb1)
        go_ret
        exact ⟨⟨_, rfl, by rw [HY.out]; simp⟩, HB.out.trans (HBB.out.mono hsz)⟩
      | false =>
        have HY := Lib.hid (any_no (recBad l) l q x hx HC.out hp)
        have HP := Lib.hid hp
        clear hx hp
        go_wp2_with (go_at_call 108; refine (rec58 l L c b o bx HL x FA _ fc wr w.heap.size hsz (by omega) (by omega) hcx' HNW hb HAX.out).mono ?_; rintro e w1 ⟨rfl, hb1⟩; rw [HP.out]; have HBB := Lib.hid hb1; clear hb1)
        go_roundw
        case rel => exact ⟨q + 1, by go_num, by omega, HY, Lib.hid (HB.out.trans (HBB.out.mono hsz))⟩
        case measure => simp [intOf]; omega
    · obtain rfl : q = L := by omega
      go_wp2
      go_ret
      exact ⟨⟨_, rfl, by have := HC.out; rw [List.take_of_length_le (by rw [HL.out]; omega)] at this; rw [this]; rfl⟩, HB.out⟩
theorem contf_any (l : List Nd) (L c b o bx : Nat) (HL : Hid (l.length = L)) (hL : L <= 1000000) (t : Bool) (ht : l.any (recBad l) = t) (w : World) (hbx : bx < w.heap.size) (hb : b < w.heap.size) (hcx : w.cell? ⟨bx, 0, none⟩ = some (.slice (some ⟨b, o, none⟩) L c)) (HN : Hid (NdsAt w.heap.size w b o l)) (HA : Hid (∀ x ∈ l, x.kind = 8 -> 0 <= x.a /\ x.a < (L : Int))) :
    Calls Tryz.prog 88 #[.slice (some ⟨b, o, none⟩) L c, .func (.func 108) #[] #[.pointer (some ⟨bx, 0, none⟩)]] w fun e w' => e = .returned (.bool t) /\ Below w.heap.size w w' := by
  have HC := Lib.hid (idxf_any l L c b o bx HL hL w hbx hb hcx HN HA)
  rw [ht] at HC
  clear ht
  go_enter Tryz.func88, Tryz.ntmps88
  go_wp2_with (go_at_call 130; refine HC.out.mono ?_; rintro e w1 ⟨⟨r, rfl, hr⟩, hb1⟩)
  go_ret
  exact ⟨ret_b (by first | exact hr | simp), hb1⟩
open Go.RowKit
def ParPost (l : List Nd) (w : World) (e : Ending) (w' : World) : Prop := ∃ v b, e = .returned (.tuple #[v, .bool b]) /\ (b = true ↔ (kidsOk l /\ onceOk l)) /\
  (b = true -> ∃ (U : List Int) (g c : Nat), v = .slice (some ⟨g, 0, none⟩) U.length c /\ Ints w.heap.size w' v U /\ UInv l.length (prs l) U) /\ Below w.heap.size w w'
theorem row0_of {W : World} {g : Nat} {U : List Int} (h : W.heap[g]? = some (.cells (U.map (Value.int .i64)).toArray 3)) : Row0 W g U := fun j z hz => by
  rw [Blk_cell h]
  simp [hz]
theorem set_row {W : World} {g k : Nat} {U : List Int} {z : Int} (h : W.heap[g]? = some (.cells (U.map (Value.int .i64)).toArray 3)) : (W.setCell ⟨g, k, none⟩ (.int .i64 z)).heap[g]? = some (.cells ((U.set k z).map (Value.int .i64)).toArray 3) := by
  rw [blk_put h]
  congr 2
  simp [List.map_set]
theorem ints_cells {B g c : Nat} {W : World} {l : List Int} (h : Ints B W (.slice (some ⟨g, 0, none⟩) l.length c) l) : Row0 W g l := fun j z hz => by
  have := World.ownsRow.cells h (g := g) rfl j (.int .i64 z) (by simp [hz])
  rw [Addr.add_lit, Nat.zero_add] at this
  exact this
theorem Row0.set {W : World} {g h k : Nat} {U : List Int} {v : Value} (hr : Row0 W g U) (hne : g ≠ h) : Row0 (W.setCell ⟨h, k, none⟩ v) g U := fun j z hz => by
  have : (W.setCell ⟨h, k, none⟩ v).cell? ⟨g, j, none⟩ = W.cell? ⟨g, j, none⟩ := World.cell?_setCell_far W ⟨h, k, none⟩ ⟨g, j, none⟩ v (fun e => hne e.symm)
  rw [this]; exact hr j z hz
theorem ahead_take {l : List Nd} {i : Nat} {x : Nd} (hx : l[i]? = some x) (h : ∀ (i' : Nat) (y : Nd), i' < i -> l[i']? = some y -> ahead i' y) (ha : ahead i x) : ∀ (i' : Nat) (y : Nd), i' < i + 1 -> l[i']? = some y -> ahead i' y := by
  intro i' y hi hy
  by_cases he : i' = i
  · subst he; rw [hx] at hy; injection hy with hy; exact hy ▸ ha
  · exact h i' y (by omega) hy
theorem kids_len (x : Nd) : (kids x).length <= 3 + x.l.length := by
  rw [kids, List.length_append, kids_own]
  have h1 : ([x.a, x.b, x.c].take (ownN x.kind)).length <= 3 := by rw [List.length_take]; simp; omega
  split
  · rw [List.length_map]; omega
  · simp only [List.length_nil]; omega
theorem par_any (l : List Nd) (L c b o : Nat) (HL : Hid (l.length = L)) (hL0 : 0 < L) (hL : L <= 100000) (w : World) (hb : b < w.heap.size) (HN : Hid (NdsAt w.heap.size w b o l)) (HLL : Hid (∀ x ∈ l, x.l.length <= 1000000)) :
    Calls Tryz.prog 107 #[.agg #[.slice (some ⟨b, o, none⟩) L c]] w (ParPost l w) := by
  obtain ⟨w2, hw2⟩ : ∃ w2, (w.alloc (.cells #[.slice (some ⟨b, o, none⟩) L c] 25)).alloc (.cells #[.int .i64 (-1)] 3) = w2 := ⟨_, rfl⟩
  have hs2 : w2.heap.size = w.heap.size + 2 := by rw [<- hw2]; simp
  have hb2 : Below w.heap.size w w2 := by rw [<- hw2]; exact ((Below.refl _ w).alloc (Nat.le_refl _) _).alloc (by simp) _
  have hx2 : w2.heap[w.heap.size + 1]? = some (.cells #[.int .i64 (-1)] 3) := by rw [<- hw2]; exact heap_new _ _ _ (by simp)
  have hc0 : w2.cell? ⟨w.heap.size, 0, none⟩ = some (.slice (some ⟨b, o, none⟩) L c) := by
    rw [<- hw2, cell_under1 _ _ _ _ (by simp)]
    exact new_cellsT' w 25 [.slice (some ⟨b, o, none⟩) L c] 0 _ rfl
  have HR : Hid (Calls Tryz.prog 140 #[.slice (some ⟨w.heap.size + 1, 0, none⟩) 1 1, .int .i64 (L : Int)] w2 fun e w' => e = .returned (.slice (some ⟨w.heap.size + 2, 0, none⟩) L L) /\ w'.heap[w.heap.size + 2]? = some (.cells ((List.replicate L (-1 : Int)).map (Value.int .i64)).toArray 3) /\ Below (w.heap.size + 2) w2 w') := Lib.hid (by
    have := repeat_any (w.heap.size + 1) L hL0 (by omega) w2 hx2
    rw [hs2] at this; exact this)
  rw [<- hw2] at HR hc0
  have HB2 := Lib.hid (hw2 ▸ hb2)
  clear hb2 hx2 hw2 hs2
  go_enter Tryz.func107, Tryz.ntmps107
  go_wp2_with (go_at_call 140; refine HR.out.mono ?_; rintro e w3 ⟨rfl, hg3, hb3⟩; have c03 := (hb3.cell (p := ⟨w.heap.size, 0, none⟩) (by simp)).trans hc0; have HG3 := Lib.hid hg3; have HB3 := Lib.hid (HB2.out.trans (hb3.mono (by omega))); clear hg3 hb3)
  go_loopw [2, 16] (fun s2 v wr => ∃ (i : Nat) (U : List Int), s2 = .slice (some ⟨w.heap.size + 2, 0, none⟩) L L /\ v = .int .i64 (i : Int) /\ i <= L /\ Hid (wr.heap[w.heap.size + 2]? = some (.cells (U.map (Value.int .i64)).toArray 3)) /\ Hid (UInv L (prs (l.take i)) U) /\ Hid (∀ (i' : Nat) (y : Nd), i' < i -> l[i']? = some y -> ahead i' y) /\ Hid (Below w.heap.size w wr)) (fun _ v _ => L - (intOf v).toNat)
  case atStart => exact ⟨0, List.replicate L (-1), rfl, rfl, Nat.zero_le _, HG3, Lib.hid (UInv.start L), Lib.hid (fun i' y h => absurd h (by omega)), HB3⟩
  case round =>
    obtain ⟨i, U, rfl, rfl, hi, HG, HU, HAH, HB⟩ := hrel
    have hgs : w.heap.size + 2 < wr.heap.size := (Array.getElem?_eq_some_iff.1 HG.out).1
    by_cases hlt : i < L
    · obtain ⟨x, hx⟩ : ∃ x, l[i]? = some x := ⟨_, List.getElem?_eq_getElem (by rw [HL.out]; exact hlt)⟩
      obtain ⟨fv, hfl, m0, m1, m2, m3, m4, m5, m6, m7, m8⟩ := (HN.out.below HB.out hb) i x hx
      have HFL : Hid (Flds wr.heap.size wr fv x.l) := Lib.hid (hfl.mono HB.out.size)
      obtain ⟨FA, fc, rfl, _⟩ := hfl
      have HX := Lib.hid hx
      have HKD : Hid (∀ w1, Below wr.heap.size wr w1 -> Calls Tryz.prog 61 #[.agg (ndArr x (.slice FA x.l.length fc))] w1 (KidsPost (kids x) w1.heap.size w1)) := Lib.hid fun w1 hb1 => pkids_any x _ w1 (Nat.le_refl _) ((HFL.out.below hb1).mono hb1.size) (HLL.out x (List.mem_of_getElem? HX.out))
      obtain ⟨K, hK⟩ : ∃ K, kids x = K := ⟨_, rfl⟩
      rw [hK] at HKD
      have HKX := Lib.hid hK
      clear hx hK
      go_wp2_with (go_at_call 61; refine (HKD.out _ ((Below.refl _ wr).alloc (Nat.le_refl _) _)).mono ?_; rintro e w5 ⟨gk, ck, rfl, hi5, hb5⟩; have HI5 := Lib.hid hi5; have HB5 := Lib.hid (((Below.refl _ wr).alloc (Nat.le_refl _) _).trans (hb5.mono (by simp))); have hgk := (hi5.lt gk rfl); rw [World.size_alloc] at hgk; clear hi5 hb5)
      have HKL : Hid (K.length <= 1000003) := Lib.hid (by rw [<- HKX.out]; have := kids_len x; have := HLL.out x (List.mem_of_getElem? HX.out); omega)
      have HG5 : Hid (w5.heap[w.heap.size + 2]? = some (.cells (U.map (Value.int .i64)).toArray 3)) := Lib.hid ((HB5.out.block _ hgs).trans HG.out)
      have HR5 : Hid (Row0 w5 gk K) := Lib.hid (ints_cells HI5.out)
      have HKX' : Hid (∀ (j : Nat) (k : Int), K[j]? = some k -> (kids x)[j]? = some k) := Lib.hid (fun j k h => by rw [HKX.out]; exact h)
      go_loopw [2, 24] (fun s2 v w6 => ∃ (j : Nat) (U' : List Int), s2 = .slice (some ⟨w.heap.size + 2, 0, none⟩) L L /\ v = .int .i64 (j : Int) /\ j <= K.length /\ Hid (w6.heap[w.heap.size + 2]? = some (.cells (U'.map (Value.int .i64)).toArray 3)) /\ Hid (UInv L (prs (l.take i) ++ (K.take j).map fun k => (k, i)) U') /\ Hid (Row0 w6 gk K) /\ Hid (∀ m ∈ K.take j, 0 <= m /\ m < (i : Int)) /\ Hid (Below w.heap.size w w6)) (fun _ v _ => K.length - (intOf v).toNat)
      case atStart => exact ⟨0, U, rfl, rfl, Nat.zero_le _, HG5, Lib.hid (by simpa using HU.out), HR5, Lib.hid (by simp), Lib.hid (HB.out.trans (HB5.out.mono HB.out.size))⟩
      case round =>
        obtain ⟨j, U', rfl, rfl, hj, HG6, HU6, HR6, HA6, HB6⟩ := hrel
        have hkl := HKL.out
        by_cases hjl : j < K.length
        · obtain ⟨k, hk⟩ : ∃ k, K[j]? = some k := ⟨_, List.getElem?_eq_getElem hjl⟩
          have hck := HR6.out j k hk
          have HKK := Lib.hid hk
          clear hk
          by_cases h0 : k < 0
          · have HBAD : Hid (¬ kidsOk l) := Lib.hid (fun hh => by
              have := (hh i x HX.out k (List.mem_of_getElem? (HKX'.out j k HKK.out))).1; omega)
            have hd : decide (k < 0) = true := by simpa using h0
            go_wp2
            go_ret2
            exact ⟨_, false, rfl, ⟨fun h => (by cases h), fun h => absurd h.1 HBAD.out⟩, fun h => (by cases h), HB6.out⟩
          · obtain ⟨q, rfl⟩ := Int.eq_ofNat_of_zero_le (by omega : 0 <= k)
            by_cases h1 : q < i
            · obtain ⟨z, hz⟩ : ∃ z, U'[q]? = some z := ⟨_, List.getElem?_eq_getElem (by rw [HU6.out.1]; omega)⟩
              have hcz := row0_of HG6.out q z hz
              have hfz := Blk_frozen HG6.out q
              have HZ := Lib.hid hz
              clear hz
              by_cases h2 : 0 <= z
              · have HBAD : Hid (¬ (allKids l).Nodup) := Lib.hid (not_nodup HX.out (HKX'.out j _ HKK.out) (by rw [HKX.out]; exact (HU6.out.old (k := q) (by omega) HZ.out).1 h2))
                go_wp2
                go_ret2
                exact ⟨_, false, rfl, ⟨fun h => (by cases h), fun h => absurd h.2.1 HBAD.out⟩, fun h => (by cases h), HB6.out⟩
              · have HNEW : Hid (((q : Nat) : Int) ∉ (prs (l.take i) ++ (K.take j).map fun k => (k, i)).map Prod.fst) := Lib.hid (fun hm => h2 ((HU6.out.old (k := q) (by omega) HZ.out).2 hm))
                have HU7 := Lib.hid (HU6.out.step (k := q) (i := i) (by omega) HNEW.out)
                have h2d : decide (0 <= z) = false := by simpa using h2
                have h2e : z < 0 := by omega
                clear h2
                go_wp2
                go_roundw
                case rel =>
                  refine ⟨j + 1, U'.set q (i : Int), rfl, by go_num, by omega, Lib.hid (set_row HG6.out), Lib.hid ?_, Lib.hid (HR6.out.set (by omega)), Lib.hid ?_, Lib.hid (HB6.out.setCell (p := ⟨w.heap.size + 2, q, none⟩) (by simp) _)⟩
                  · rw [take_snoc K j _ HKK.out, List.map_append, <- List.append_assoc]; exact HU7.out
                  · rw [take_snoc K j _ HKK.out]
                    intro m hm
                    rw [List.mem_append, List.mem_singleton] at hm
                    rcases hm with hm | rfl
                    · exact HA6.out m hm
                    · omega
                case measure => simp [intOf]; omega
            · have HBAD : Hid (¬ kidsOk l) := Lib.hid (fun hh => by
                have := (hh i x HX.out _ (List.mem_of_getElem? (HKX'.out j _ HKK.out))).2; omega)
              have h1' : (i : Int) <= (q : Int) := by omega
              go_wp2
              go_ret2
              exact ⟨_, false, rfl, ⟨fun h => (by cases h), fun h => absurd h.1 HBAD.out⟩, fun h => (by cases h), HB6.out⟩
        · obtain rfl : j = K.length := by omega
          go_wp2
          go_roundw
          case rel =>
            have hU := HU6.out
            have hA := HA6.out
            rw [List.take_length] at hU hA
            rw [<- HKX.out] at hU hA
            rw [<- prs_take HX.out] at hU
            exact ⟨i + 1, U', rfl, by go_num, by omega, HG6, Lib.hid hU, Lib.hid (ahead_take HX.out HAH.out hA), HB6⟩
          case measure => simp [intOf]; omega
    · obtain rfl : i = L := by omega
      have hU := HU.out
      rw [List.take_of_length_le (by rw [HL.out]; omega)] at hU
      have hko : kidsOk l := fun i' y hy => HAH.out i' y (by have := lt_of_some hy; rw [HL.out] at this; exact this) hy
      obtain ⟨t, ht⟩ : ∃ t, (U.take (i - 1)).contains (-1) = t := ⟨_, rfl⟩
      have hul := hU.1
      have hfin := hU.1 ▸ hU
      have HT := Lib.hid ht
      have HEND : Hid ((t = false) ↔ (kidsOk l /\ onceOk l)) := Lib.hid (by
        rw [<- ht]
        have h1 := HL.out
        subst h1
        rw [hU.fin]
        exact ⟨fun h => ⟨hko, hU.nodup, h⟩, fun h => h.2.2⟩)
      have HU1 := Lib.hid hU
      have HUL := Lib.hid hul
      have HRW := Lib.hid (row0_of HG.out)
      have HIN : Hid (Ints w.heap.size wr (.slice (some ⟨w.heap.size + 2, 0, none⟩) i i) U) := Lib.hid (ints_of HG.out (by omega) hul.symm (by unfold maxLen; omega))
      clear hU hul ht hko hfin
      have hsub : IntKind.i64.wrap ((i : Int) - 1) = ((i - 1 : Nat) : Int) := by rw [IntWalk.i64_in _ (by omega)]; omega
      go_wp2_with (go_at_call 141; refine (contains_any U (w.heap.size + 2) (i - 1) i (-1) t HT.out _ (by rw [HUL.out]; omega) (by omega) HRW).mono ?_; rintro e w' ⟨rfl, rfl⟩)
      go_ret2
      refine ⟨.slice (some ⟨w.heap.size + 2, 0, none⟩) i i, !t, rfl, ?_, ?_, HB.out⟩
      · rw [<- HEND.out]; cases t <;> simp
      · intro _
        exact ⟨U, w.heap.size + 2, i, by rw [HUL.out], HIN.out, by rw [HL.out]; exact HU1.out⟩
open Go.RowKit
def Small (x : Nd) : Prop := x.nm.size <= 9223372036854775807 /\ x.s.size <= 9223372036854775807 /\ x.l.length <= 1000000 /\ ∀ f ∈ x.l, f.nm.size <= 9223372036854775807 /\ f.vr.size <= 9223372036854775807
def formed (l : List Nd) : Prop := (∀ x ∈ l, rightB x = true) /\ kidsOk l /\ onceOk l /\ recOk l
def FormPost (l : List Nd) (w : World) (e : Ending) (w' : World) : Prop := ∃ b, e = .returned (.bool b) /\ (b = true ↔ formed l) /\ Below w.heap.size w w'
theorem rec_iff (l : List Nd) : l.any (recBad l) = false ↔ recOk l := by
  rw [List.any_eq_false]
  constructor
  · intro h i x hx hk
    have h1 := h x (List.mem_of_getElem? hx)
    simp only [recBad, hk, beq_self_eq_true, Bool.true_and, Bool.not_eq_true', Bool.not_eq_false, beq_iff_eq, Option.map_eq_some_iff] at h1
    exact h1
  · intro h x hx
    obtain ⟨i, hi⟩ := List.getElem?_of_mem hx
    by_cases hk : x.kind = 8
    · obtain ⟨y, hy, hy5⟩ := h i x hi hk
      simp [recBad, hy, hy5]
    · simp [recBad, hk]
theorem kid_a {x : Nd} (h : x.kind = 8) : x.a ∈ kids x := by
  have : kids0 x = [x.a, x.b] := by simp [kids0, h]
  rw [kids, this]; simp
theorem all_node {l : List Nd} {i : Nat} {x : Nd} (hx : l[i]? = some x) (h : ∀ (i' : Nat) (y : Nd), i' < i -> l[i']? = some y -> rightB y = true) (ha : rightB x = true) : ∀ (i' : Nat) (y : Nd), i' < i + 1 -> l[i']? = some y -> rightB y = true := by
  intro i' y hi hy
  by_cases he : i' = i
  · subst he; rw [hx] at hy; injection hy with hy; exact hy ▸ ha
  · exact h i' y (by omega) hy
theorem form_any (l : List Nd) (L c b o : Nat) (HL : Hid (l.length = L)) (hL0 : 0 < L) (hL : L <= 100000) (w : World) (hK : Kws w.heap.size w) (hb : b < w.heap.size) (HN : Hid (NdsAt w.heap.size w b o l)) (HS : Hid (∀ x ∈ l, Small x)) :
    Calls Tryz.prog 63 #[.agg #[.slice (some ⟨b, o, none⟩) L c]] w (FormPost l w) := by
  have HK := Lib.hid hK
  have HB1 : Hid (Below w.heap.size w (w.alloc (.cells #[.slice (some ⟨b, o, none⟩) L c] 25))) := Lib.hid ((Below.refl _ w).alloc (Nat.le_refl _) _)
  have hbx : (w.alloc (.cells #[.slice (some ⟨b, o, none⟩) L c] 25)).cell? ⟨w.heap.size, 0, none⟩ = some (.slice (some ⟨b, o, none⟩) L c) := new_cellsT' w 25 [.slice (some ⟨b, o, none⟩) L c] 0 _ rfl
  have HBX := Lib.hid hbx
  clear hK hbx
  go_enter Tryz.func63, Tryz.ntmps63
  go_wp2
  go_loopw [10] (fun v wr => ∃ i : Nat, v = .int .i64 (i : Int) /\ i <= L /\ Hid (∀ (i' : Nat) (y : Nd), i' < i -> l[i']? = some y -> rightB y = true) /\ Hid (Below (w.heap.size + 1) (w.alloc (.cells #[.slice (some ⟨b, o, none⟩) L c] 25)) wr)) (fun v _ => L - (intOf v).toNat)
  case atStart => exact ⟨0, rfl, Nat.zero_le _, Lib.hid (fun i' y h => absurd h (by omega)), Lib.hid (Below.refl _ _)⟩
  case round =>
    obtain ⟨i, rfl, hi, HAL, HB2⟩ := hrel
    have HB : Hid (Below w.heap.size w wr) := Lib.hid (HB1.out.trans (HB2.out.mono (by omega)))
    have hsz := HB2.out.size
    rw [World.size_alloc] at hsz
    have hbw : wr.cell? ⟨w.heap.size, 0, none⟩ = some (.slice (some ⟨b, o, none⟩) L c) := (HB2.out.cell (p := ⟨w.heap.size, 0, none⟩) (by simp)).trans HBX.out
    by_cases hlt : i < L
    · obtain ⟨x, hx⟩ : ∃ x, l[i]? = some x := ⟨_, List.getElem?_eq_getElem (by rw [HL.out]; exact hlt)⟩
      obtain ⟨fv, hfl, m0, m1, m2, m3, m4, m5, m6, m7, m8⟩ := (HN.out.below HB.out hb) i x hx
      have HFL : Hid (Flds wr.heap.size wr fv x.l) := Lib.hid (hfl.mono HB.out.size)
      obtain ⟨FA, fc, rfl, _⟩ := hfl
      have HX := Lib.hid hx
      have HSX := Lib.hid (HS.out x (List.mem_of_getElem? hx))
      obtain ⟨r, hr⟩ : ∃ r, rightB x = r := ⟨_, rfl⟩
      have HND : Hid (∀ w1, Below wr.heap.size wr w1 -> Calls Tryz.prog 106 #[.agg (ndArr x (.slice FA x.l.length fc))] w1 fun e w' => e = .returned (.bool r) /\ Below w1.heap.size w1 w') := Lib.hid fun w1 hb1 => by
        rw [<- hr, <- node_right]
        exact node_any x _ w1 (Kws_mono (HK.out.on (HB.out.trans (hb1.mono HB.out.size))) (by have := HB.out.size; have := hb1.size; omega)) ((HFL.out.below hb1).mono hb1.size) HSX.out.2.2.1 HSX.out.1 HSX.out.2.1 HSX.out.2.2.2
      have HR := Lib.hid hr
      clear hx hr
      cases r with
      | false =>
        have HBAD : Hid (¬ formed l) := Lib.hid (fun h => by have := h.1 x (List.mem_of_getElem? HX.out); rw [HR.out] at this; cases this)
        go_wp2_with (go_at_call 106; refine (HND.out _ ((Below.refl _ wr).alloc (Nat.le_refl _) _)).mono ?_; rintro e w5 ⟨rfl, hb5⟩; have HB5 := Lib.hid (((Below.refl _ wr).alloc (Nat.le_refl _) _).trans (hb5.mono (by simp))); clear hb5)
        go_ret
        exact ⟨false, rfl, ⟨fun h => (by cases h), fun h => absurd h HBAD.out⟩, HB.out.trans (HB5.out.mono HB.out.size)⟩
      | true =>
        go_wp2_with (go_at_call 106; refine (HND.out _ ((Below.refl _ wr).alloc (Nat.le_refl _) _)).mono ?_; rintro e w5 ⟨rfl, hb5⟩; have HB5 := Lib.hid (((Below.refl _ wr).alloc (Nat.le_refl _) _).trans (hb5.mono (by simp))); clear hb5)
        go_roundw
        case rel => exact ⟨i + 1, by go_num, by omega, Lib.hid (all_node HX.out HAL.out HR.out), Lib.hid (HB2.out.trans (HB5.out.mono (by omega)))⟩
        case measure => simp [intOf]; omega
    · obtain rfl : i = L := by omega
      have HALL : Hid (∀ x ∈ l, rightB x = true) := Lib.hid (fun x hx => by
        obtain ⟨i', hi'⟩ := List.getElem?_of_mem hx
        exact HAL.out i' x (by have := lt_of_some hi'; rw [HL.out] at this; exact this) hi')
      have HPAR : Hid (Calls Tryz.prog 107 #[.agg #[.slice (some ⟨b, o, none⟩) i c]] wr (ParPost l wr)) := Lib.hid (par_any l i c b o HL hL0 hL wr (by omega) (Lib.hid ((HN.out.below HB.out hb).mono (by omega))) (Lib.hid (fun x hx => (HS.out x hx).2.2.1)))
      obtain ⟨t, ht⟩ : ∃ t, l.any (recBad l) = t := ⟨_, rfl⟩
      have HT := Lib.hid ht
      clear ht
      have HNW : ∀ w1, Below wr.heap.size wr w1 -> NdsAt w1.heap.size w1 b o l := fun w1 h1 => ((HN.out.below (HB.out.trans (h1.mono HB.out.size)) hb).mono (by have := h1.size; omega))
      have HNH := Lib.hid HNW
      clear HNW
      unfold ParPost at HPAR
      by_cases hp : kidsOk l /\ onceOk l
      · have HP := Lib.hid hp
        have HREC : Hid (∀ x ∈ l, x.kind = 8 -> 0 <= x.a /\ x.a < (i : Int)) := Lib.hid (fun x hx hk => by
            obtain ⟨i', hi'⟩ := List.getElem?_of_mem hx
            have h1 := hp.1 i' x hi' _ (kid_a hk)
            have h2 := lt_of_some hi'
            rw [HL.out] at h2
            exact ⟨h1.1, by omega⟩)
        have HEND : Hid ((!t) = true ↔ formed l) := Lib.hid (by
          have h1 := rec_iff l
          rw [HT.out] at h1
          rw [show ((!t) = true ↔ t = false) by cases t <;> simp, h1]
          exact ⟨fun h => ⟨HALL.out, hp.1, hp.2, h⟩, fun h => h.2.2.2⟩)
        clear hp
        go_wp2_with (first | (go_at_call 107; refine HPAR.out.mono ?_; rintro e w5 ⟨v, pb, rfl, hiff, _, hb5⟩; obtain rfl : pb = true := hiff.2 HP.out; have HB5 := Lib.hid hb5; have hb5s := hb5.size; have hbw5 := (hb5.cell (p := ⟨w.heap.size, 0, none⟩) (by show w.heap.size < wr.heap.size; omega)).trans hbw; clear hiff hb5) | (go_at_call 88; refine (contf_any l i c b o w.heap.size HL (by omega) t HT.out _ (by omega) (by omega) hbw5 (Lib.hid (HNH.out _ HB5.out)) HREC).mono ?_; rintro e w6 ⟨rfl, hb6⟩; have HB6 := Lib.hid hb6; clear hb6))
        go_ret
        exact ⟨!t, rfl, HEND.out, HB.out.trans ((HB5.out.trans (HB6.out.mono hb5s)).mono (by omega))⟩
      · have HBAD : Hid (¬ formed l) := Lib.hid (fun h => hp ⟨h.2.1, h.2.2.1⟩)
        have HP := Lib.hid hp
        clear hp
        go_wp2_with (go_at_call 107; refine HPAR.out.mono ?_; rintro e w5 ⟨v, pb, rfl, hiff, _, hb5⟩; obtain rfl : pb = false := (by cases pb with | false => rfl | true => exact absurd (hiff.1 rfl) HP.out); have HB5 := Lib.hid hb5; clear hiff hb5)
        go_ret
        exact ⟨false, rfl, ⟨fun h => (by cases h), fun h => absurd h HBAD.out⟩, HB.out.trans (HB5.out.mono (by omega))⟩
open Go.RowKit
def root (l : List Nd) : Nat := (deeps l).getD (l.length - 1) 0
open Classical in
noncomputable def may (l : List Nd) : Int := if l.length < 1 ∨ 600 < l.length then 8 else if ¬ formed l then 4 else if 100 < root l then 6 else 0
noncomputable def deepOf (l : List Nd) : Int := if may l = 0 then (root l : Int) else 0
theorem may_full {l : List Nd} (h : l.length < 1 ∨ 600 < l.length) : may l = 8 := by unfold may; rw [if_pos h]
theorem may_form {l : List Nd} (h : ¬ (l.length < 1 ∨ 600 < l.length)) (hf : ¬ formed l) : may l = 4 := by unfold may; rw [if_neg h, if_pos hf]
theorem may_deep {l : List Nd} (h : ¬ (l.length < 1 ∨ 600 < l.length)) (hf : formed l) (hd : 100 < root l) : may l = 6 := by unfold may; rw [if_neg h, if_neg (by simpa using hf), if_pos hd]
theorem may_ok {l : List Nd} (h : ¬ (l.length < 1 ∨ 600 < l.length)) (hf : formed l) (hd : ¬ 100 < root l) : may l = 0 := by unfold may; rw [if_neg h, if_neg (by simpa using hf), if_neg hd]
theorem may_zero {l : List Nd} (h : may l = 0) : ¬ (l.length < 1 ∨ 600 < l.length) /\ formed l /\ root l <= 100 := by
  unfold may at h
  split at h
  · cases h
  · rename_i h1
    split at h
    · cases h
    · rename_i h2
      split at h
      · cases h
      · rename_i h3
        exact ⟨h1, Classical.not_not.1 h2, by omega⟩
def DPost (d m : Int) (w : World) (e : Ending) (w' : World) : Prop := e = .returned (.tuple #[.int .i64 d, .int .i64 m]) /\ Below w.heap.size w w'
def DRow (l : List Nd) (i : Nat) (d : Nat) (D : List Int) : Prop := D.length = l.length /\ (∀ k : Nat, k < i -> D[k]? = some (((deeps l).getD k 0 : Nat) : Int)) /\ D[i]? = some (d : Int) /\ ∀ k : Nat, i < k -> k < l.length -> D[k]? = some 0
theorem DRow.set {l : List Nd} {i d : Nat} {D : List Int} (h : DRow l i d D) (d' : Nat) : DRow l i d' (D.set i (d' : Int)) := by
  obtain ⟨h1, h2, h3, h4⟩ := h
  have := lt_of_some h3
  refine ⟨by simp [h1], fun k hk => ?_, by rw [List.getElem?_set_self this], fun k hk hl => ?_⟩
  · rw [List.getElem?_set_ne (by omega)]; exact h2 k hk
  · rw [List.getElem?_set_ne (by omega)]; exact h4 k hk hl
def mx (l : List Nd) (ks : List Int) : Nat := (ks.map fun k => (deeps l).getD k.toNat 0).foldl max 0
theorem mx_snoc (l : List Nd) (ks : List Int) (k : Int) : mx l (ks ++ [k]) = max (mx l ks) ((deeps l).getD k.toNat 0) := by simp [mx]
theorem deeps_mx {l : List Nd} {i : Nat} {x : Nd} (hx : l[i]? = some x) (ha : ahead i x) : (deeps l).getD i 0 = mx l (kids x) + 1 := by
  rw [List.getD_eq_getElem?_getD, deeps_at hx]
  simp only [Option.getD_some, dp, mx]
  congr 2
  apply List.map_congr_left
  intro k hk
  have h := ha k hk
  have hl : k.toNat < i := by omega
  rw [List.getD_eq_getElem?_getD, List.getElem?_take, if_pos hl, <- List.getD_eq_getElem?_getD]
theorem deeps_le {l : List Nd} (hk : kidsOk l) : ∀ i, i < l.length -> (deeps l).getD i 0 <= i + 1 := by
  intro i
  induction i using Nat.strongRecOn with
  | ind i ih =>
    intro hi
    have hx := List.getElem?_eq_getElem hi
    rw [deeps_mx hx (hk _ _ hx)]
    have : ∀ ks : List Int, (∀ k ∈ ks, 0 <= k /\ k < (i : Int)) -> mx l ks <= i := by
      intro ks
      induction ks using snocInd with
      | h0 => intro _; exact Nat.zero_le _
      | h1 ks k ihk =>
        intro h
        rw [mx_snoc]
        have h1 := ihk fun m hm => h m (by simp [hm])
        have h2 := h k (by simp)
        have h3 := ih k.toNat (by omega) (by omega)
        omega
    have := this _ (hk _ _ hx)
    omega
theorem mx_le {l : List Nd} {i : Nat} (hk : kidsOk l) (hi : i < l.length) (ks : List Int) (h : ∀ k ∈ ks, 0 <= k /\ k < (i : Int)) : mx l ks <= i := by
  induction ks using snocInd with
  | h0 => exact Nat.zero_le _
  | h1 ks k ihk =>
    rw [mx_snoc]
    have h1 := ihk fun m hm => h m (by simp [hm])
    have h2 := h k (by simp)
    have h3 := deeps_le hk k.toNat (by omega)
    omega
open Go.RowKit
theorem depth_full (A : Option Addr) (L c : Nat) (h : L < 1 ∨ 600 < L) (hL : L <= 9223372036854775807) (w : World) : Calls Tryz.prog 35 #[.agg #[.slice A L c]] w (DPost 0 8 w) := by
  by_cases h0 : L = 0
  · subst h0
    go_enter Tryz.func35, Tryz.ntmps35
    go_wp2
    go_ret2
    exact ⟨rfl, (Below.refl _ w).alloc (Nat.le_refl _) _⟩
  · have h1 : ((L : Int) == 0) = false := by simpa using h0
    have h2 : decide ((600 : Int) < (L : Int)) = true := by simp; omega
    have h3 : (600 : Int) < (L : Int) := by omega
    go_enter Tryz.func35, Tryz.ntmps35
    go_wp2
    go_ret2
    exact ⟨rfl, (Below.refl _ w).alloc (Nat.le_refl _) _⟩
theorem rep_arr (n : Nat) : Array.replicate n (Value.int .i64 0) = ((List.replicate n (0 : Int)).map (Value.int .i64)).toArray := by simp
theorem make_arr (n : Nat) (hn : n <= 1000000) (w : World) : Sem.run Tryz.prog (Instr.makeSlice 74 (.int .i64 (n : Int)) (.int .i64 (n : Int))) w = .ok (.slice (some ⟨w.heap.size, 0, none⟩) n n) (w.alloc (.cells (Array.replicate n (Value.int .i64 0)) 3)) := by rw [rep_arr]; exact make_ints n hn w
def ORow (l : List Nd) (i : Nat) (D : List Int) : Prop := D.length = l.length /\ (∀ k : Nat, k < i -> D[k]? = some (((deeps l).getD k 0 : Nat) : Int)) /\ ∀ k : Nat, i <= k -> k < l.length -> D[k]? = some 0
theorem ORow.start (l : List Nd) (L : Nat) (h : l.length = L) : ORow l 0 (List.replicate L 0) := by
  subst h
  exact ⟨by simp, fun k hk => absurd hk (by omega), fun k _ hk => by simp [hk]⟩
theorem ORow.row {l : List Nd} {i : Nat} {D : List Int} (h : ORow l i D) (hi : i < l.length) : DRow l i 0 D := ⟨h.1, h.2.1, h.2.2 i (Nat.le_refl _) hi, fun k hk hl => h.2.2 k (by omega) hl⟩
theorem DRow.out {l : List Nd} {i d : Nat} {D : List Int} (h : DRow l i d D) (hd : (deeps l).getD i 0 = d) : ORow l (i + 1) D := by
  obtain ⟨h1, h2, h3, h4⟩ := h
  refine ⟨h1, fun k hk => ?_, fun k hk hl => h4 k (by omega) hl⟩
  by_cases e : k = i
  · subst e; rw [hd]; exact h3
  · exact h2 k (by omega)
theorem Row0.drew {W : World} {g : Nat} {U : List Int} (h : Row0 W g U) : Row0 W.drew g U := fun j z hz => by rw [World.cell?_drew]; exact h j z hz
theorem depth_any (l : List Nd) (L c b o : Nat) (HL : Hid (l.length = L)) (hL0 : 0 < L) (hL : L <= 600) (w : World) (hK : Kws w.heap.size w) (hb : b < w.heap.size) (HN : Hid (NdsAt w.heap.size w b o l)) (HS : Hid (∀ x ∈ l, Small x)) :
    Calls Tryz.prog 35 #[.agg #[.slice (some ⟨b, o, none⟩) L c]] w (DPost (deepOf l) (may l) w) := by
  have h1 : ((L : Int) == 0) = false := by simpa using (by omega : ¬ L = 0)
  have h2 : decide ((600 : Int) < (L : Int)) = false := by simp; omega
  have hnf : ¬ (l.length < 1 ∨ 600 < l.length) := by rw [HL.out]; omega
  have hbx : (w.alloc (.cells #[.slice (some ⟨b, o, none⟩) L c] 25)).cell? ⟨w.heap.size, 0, none⟩ = some (.slice (some ⟨b, o, none⟩) L c) := new_cellsT' w 25 [.slice (some ⟨b, o, none⟩) L c] 0 _ rfl
  have HFM : Hid (Calls Tryz.prog 63 #[.agg #[.slice (some ⟨b, o, none⟩) L c]] (w.alloc (.cells #[.slice (some ⟨b, o, none⟩) L c] 25)) (FormPost l (w.alloc (.cells #[.slice (some ⟨b, o, none⟩) L c] 25)))) := Lib.hid (by
    have hb1 := (Below.refl w.heap.size w).alloc (Nat.le_refl _) (.cells #[.slice (some ⟨b, o, none⟩) L c] 25)
    exact form_any l L c b o HL hL0 (by omega) _ (Kws_mono (hK.on hb1) (by simp)) (by simp; omega) (Lib.hid ((HN.out.below hb1 hb).mono (by simp))) HS)
  have HBX := Lib.hid hbx
  unfold FormPost at HFM
  by_cases hf : formed l
  · have HF := Lib.hid hf
    have hmk := make_arr L (by omega)
    clear hf hbx hK
    go_enter Tryz.func35, Tryz.ntmps35
    go_wp2_with (go_at_call 63; refine HFM.out.mono ?_; rintro e w1 ⟨fb, rfl, hiff, hb1⟩; obtain rfl : fb = true := hiff.2 HF.out; have c1 := (hb1.cell (p := ⟨w.heap.size, 0, none⟩) (by simp)).trans HBX.out; have HB1 := Lib.hid (((Below.refl _ w).alloc (Nat.le_refl _) _).trans (hb1.mono (by simp))); have hs1 := hb1.size; rw [World.size_alloc] at hs1; have c2 := (cell_under1 w1 (.cells (Array.replicate L (Value.int .i64 0)) 3) w.heap.size 0 (by omega)).trans c1; clear hiff hb1)
    have HG1 : Hid ((w1.alloc (.cells (Array.replicate L (Value.int .i64 0)) 3)).heap[w1.heap.size]? = some (.cells ((List.replicate L (0 : Int)).map (Value.int .i64)).toArray 3)) := Lib.hid (by rw [<- rep_arr]; exact heap_alloc_new w1 _)
    have HKO : Hid (kidsOk l) := Lib.hid HF.out.2.1
    go_loopw [30] (fun v wr => ∃ (i : Nat) (D : List Int), v = .int .i64 (i : Int) /\ i <= L /\ Hid (wr.heap[w1.heap.size]? = some (.cells (D.map (Value.int .i64)).toArray 3)) /\ Hid (ORow l i D) /\ Hid (Below w1.heap.size w1 wr)) (fun v _ => L - (intOf v).toNat)
    case atStart => exact ⟨0, List.replicate L 0, rfl, Nat.zero_le _, HG1, Lib.hid (ORow.start l L HL.out), Lib.hid ((Below.refl _ w1).alloc (Nat.le_refl _) _)⟩
    case round =>
      obtain ⟨i, D, rfl, hi, HG, HD, HB2⟩ := hrel
      have HB : Hid (Below w.heap.size w wr) := Lib.hid (HB1.out.trans (HB2.out.mono (by omega)))
      have hgs : w1.heap.size < wr.heap.size := (Array.getElem?_eq_some_iff.1 HG.out).1
      by_cases hlt : i < L
      · obtain ⟨x, hx⟩ : ∃ x, l[i]? = some x := ⟨_, List.getElem?_eq_getElem (by rw [HL.out]; exact hlt)⟩
        obtain ⟨fv, hfl, m0, m1, m2, m3, m4, m5, m6, m7, m8⟩ := (HN.out.below HB.out hb) i x hx
        have HFL : Hid (Flds wr.heap.size wr fv x.l) := Lib.hid (hfl.mono HB.out.size)
        obtain ⟨FA, fc, rfl, _⟩ := hfl
        have HX := Lib.hid hx
        have HKD : Hid (∀ w1, Below wr.heap.size wr w1 -> Calls Tryz.prog 61 #[.agg (ndArr x (.slice FA x.l.length fc))] w1 (KidsPost (kids x) w1.heap.size w1)) := Lib.hid fun w1 hb1 => pkids_any x _ w1 (Nat.le_refl _) ((HFL.out.below hb1).mono hb1.size) (HS.out x (List.mem_of_getElem? HX.out)).2.2.1
        obtain ⟨K, hK⟩ : ∃ K, kids x = K := ⟨_, rfl⟩
        rw [hK] at HKD
        have HKX := Lib.hid hK
        clear hx hK
        go_wp2_with (go_at_call 61; refine (HKD.out _ ((Below.refl _ wr).alloc (Nat.le_refl _) _)).mono ?_; rintro e w5 ⟨gk, ck, rfl, hi5, hb5⟩; have HI5 := Lib.hid hi5; have HB5 := Lib.hid (((Below.refl _ wr).alloc (Nat.le_refl _) _).trans (hb5.mono (by simp))); have hgk := (hi5.lt gk rfl); rw [World.size_alloc] at hgk; clear hi5 hb5)
        have hkl : K.length <= 1000003 := by rw [<- HKX.out]; have := kids_len x; have := (HS.out x (List.mem_of_getElem? HX.out)).2.2.1; omega
        have HG5 : Hid (w5.heap[w1.heap.size]? = some (.cells (D.map (Value.int .i64)).toArray 3)) := Lib.hid ((HB5.out.block _ hgs).trans HG.out)
        have HR5 : Hid (Row0 w5 gk K) := Lib.hid (ints_cells HI5.out)
        have HAH : Hid (∀ m ∈ K, 0 <= m /\ m < (i : Int)) := Lib.hid (by rw [<- HKX.out]; exact HKO.out i x HX.out)
        have HMX : Hid ((deeps l).getD i 0 = mx l K + 1) := Lib.hid (by rw [<- HKX.out]; exact deeps_mx HX.out (HKO.out i x HX.out))
        have hmx : mx l K <= i := mx_le HKO.out (by rw [HL.out]; exact hlt) K HAH.out
        go_loopw [38] (fun v w6 => ∃ (j d : Nat) (D' : List Int), v = .int .i64 (j : Int) /\ j <= K.length /\ d <= i /\ Hid (d = mx l (K.take j)) /\ Hid (w6.heap[w1.heap.size]? = some (.cells (D'.map (Value.int .i64)).toArray 3)) /\ Hid (DRow l i d D') /\ Hid (Row0 w6 gk K) /\ Hid (Below w1.heap.size w1 w6)) (fun v _ => K.length - (intOf v).toNat)
        case atStart => exact ⟨0, 0, D, rfl, Nat.zero_le _, Nat.zero_le _, Lib.hid rfl, HG5, Lib.hid (HD.out.row (by rw [HL.out]; exact hlt)), HR5, Lib.hid (HB2.out.trans (HB5.out.mono (by omega)))⟩
        case round =>
          obtain ⟨j, d, D', rfl, hj, hdi, HDM, HG6, HD6, HR6, HB6⟩ := hrel
          have hci := row0_of HG6.out i (d : Int) HD6.out.2.2.1
          have hfi := Blk_frozen HG6.out i
          by_cases hjl : j < K.length
          · obtain ⟨k, hk⟩ : ∃ k, K[j]? = some k := ⟨_, List.getElem?_eq_getElem hjl⟩
            have hck := HR6.out j k hk
            have HKK := Lib.hid hk
            obtain ⟨h0, h1⟩ := HAH.out k (List.mem_of_getElem? hk)
            clear hk
            obtain ⟨q, rfl⟩ := Int.eq_ofNat_of_zero_le h0
            obtain ⟨dq, hdq⟩ : ∃ dq, (deeps l).getD q 0 = dq := ⟨_, rfl⟩
            have hcq := row0_of HG6.out q (dq : Int) (by rw [<- hdq]; exact HD6.out.2.1 q (by omega))
            have HNX : Hid (mx l (K.take (j + 1)) = max d dq) := Lib.hid (by rw [take_snoc K j _ HKK.out, mx_snoc, <- HDM.out, Int.toNat_natCast, hdq])
            have hdl : dq <= i := by
              have := deeps_le HKO.out q (by rw [HL.out]; omega)
              omega
            clear hdq
            go_wp2
            go_region
            all_goals go_wp2
            go_roundw
            case rel =>
              refine ⟨j + 1, max d dq, D'.set i ((max d dq : Nat) : Int), by go_num, by omega, by omega, Lib.hid HNX.out.symm, Lib.hid ?_, Lib.hid (HD6.out.set _), Lib.hid (Row0.drew (HR6.out.set (by omega))), Lib.hid (HB6.out.setCell (p := ⟨w1.heap.size, i, none⟩) (Nat.le_refl _) _).drew⟩
              have e : max (d : Int) (dq : Int) = ((max d dq : Nat) : Int) := by omega
              rw [e]
              exact set_row HG6.out
            case measure => simp [intOf]; omega
          · obtain rfl : j = K.length := by omega
            have hdm : d = mx l K := by have := HDM.out; rwa [List.take_length] at this
            subst hdm
            go_wp2
            go_roundw
            case rel =>
              refine ⟨i + 1, D'.set i ((mx l K + 1 : Nat) : Int), by go_num, by omega, Lib.hid ?_, Lib.hid ((HD6.out.set _).out HMX.out), Lib.hid (HB6.out.setCell (p := ⟨w1.heap.size, i, none⟩) (Nat.le_refl _) _)⟩
              exact set_row (k := i) (z := ((mx l K + 1 : Nat) : Int)) HG6.out
            case measure => simp [intOf]; omega
      · obtain rfl : i = L := by omega
        have hsub : IntKind.i64.wrap ((i : Int) - 1) = ((i - 1 : Nat) : Int) := by rw [IntWalk.i64_in _ (by omega)]; omega
        obtain ⟨r, hr⟩ : ∃ r, root l = r := ⟨_, rfl⟩
        have hcr := row0_of HG.out (i - 1) (r : Int) (by rw [HD.out.2.1 (i - 1) (by omega), <- hr, root, HL.out])
        have hrl : r <= i := by
          have := deeps_le HKO.out (i - 1) (by rw [HL.out]; omega)
          have h2 : root l = (deeps l).getD (i - 1) 0 := by rw [root, HL.out]
          omega
        by_cases hd : 100 < r
        · have hm : may l = 6 := may_deep hnf HF.out (by omega)
          have hdd : deepOf l = 0 := by unfold deepOf; rw [hm]; rfl
          have HMM := Lib.hid hm
          have HDD := Lib.hid hdd
          have hd1 : decide ((100 : Int) < (r : Int)) = true := by simp; omega
          have hd2 : (100 : Int) < (r : Int) := by omega
          clear hr hm hdd
          go_wp2
          go_ret2
          exact ⟨by rw [HMM.out, HDD.out]; rfl, HB.out⟩
        · have hm : may l = 0 := may_ok hnf HF.out (by omega)
          have hdd : deepOf l = (r : Int) := by unfold deepOf; rw [if_pos hm, hr]
          have HMM := Lib.hid hm
          have HDD := Lib.hid hdd
          have hd1 : decide ((100 : Int) < (r : Int)) = false := by simp; omega
          have hd2 : ¬ (100 : Int) < (r : Int) := by omega
          clear hr hm hdd
          go_wp2
          go_ret2
          exact ⟨by rw [HMM.out, HDD.out]; rfl, HB.out⟩
  · have HF := Lib.hid hf
    have hm : may l = 4 := may_form hnf hf
    have hd : deepOf l = 0 := by unfold deepOf; rw [hm]; rfl
    rw [hm, hd]
    clear hf hm hd hbx hK
    go_enter Tryz.func35, Tryz.ntmps35
    go_wp2_with (go_at_call 63; refine HFM.out.mono ?_; rintro e w1 ⟨fb, rfl, hiff, hb1⟩; obtain rfl : fb = false := (by cases fb with | false => rfl | true => exact absurd (hiff.1 rfl) HF.out); have HB1 := Lib.hid (((Below.refl _ w).alloc (Nat.le_refl _) _).trans (hb1.mono (by simp))); clear hiff hb1)
    go_ret2
    exact ⟨rfl, HB1.out⟩
theorem depth_all (l : List Nd) (v : Value) (w : World) (hK : Kws w.heap.size w) (hv : Nodes w.heap.size w v l) (hS : ∀ x ∈ l, Small x) : Calls Tryz.prog 35 #[.agg #[v]] w (DPost (deepOf l) (may l) w) := by
  obtain ⟨A, c, rfl, ⟨h1, h2⟩, _, hp⟩ := hv
  by_cases h : l.length < 1 ∨ 600 < l.length
  · have hm := may_full h
    have hd : deepOf l = 0 := by unfold deepOf; rw [hm]; rfl
    rw [hm, hd]
    exact depth_full A _ c h (by omega) w
  · obtain ⟨b, o, rfl, hb, hn⟩ := hp (by omega)
    exact depth_any l _ c b o (Lib.hid rfl) (by omega) (by omega) w hK hb (Lib.hid hn) (Lib.hid hS)
theorem may_any (l : List Nd) (v : Value) (w : World) (hK : Kws w.heap.size w) (hv : Nodes w.heap.size w v l) (hS : ∀ x ∈ l, Small x) : Calls Tryz.prog 13 #[.agg #[v]] w fun e w' => e = .returned (.int .i64 (may l)) /\ Below w.heap.size w w' := by
  have HD : Hid (∀ w1, Below w.heap.size w w1 -> Calls Tryz.prog 35 #[.agg #[v]] w1 (DPost (deepOf l) (may l) w1)) := Lib.hid fun w1 hb => depth_all l v w1 (Kws_mono (hK.on hb) hb.size) ((hv.below hb).mono hb.size) hS
  obtain ⟨A, c, rfl, _⟩ := hv
  unfold DPost at HD
  go_enter Tryz.func13, Tryz.ntmps13
  go_wp2_with (go_at_call 35; refine (HD.out _ ((Below.refl _ w).alloc (Nat.le_refl _) _)).mono ?_; rintro e w1 ⟨rfl, hb⟩; have HB := Lib.hid hb; clear hb)
  go_ret
  exact ⟨rfl, ((Below.refl _ w).alloc (Nat.le_refl _) _).trans (HB.out.mono (by simp))⟩
open Go.RowKit
theorem clone_any (s : ByteArray) (h : s.size <= 281474976710656) (w : World) : Calls Tryz.prog 38 #[.string s] w fun e w' => e = .returned (.string s) /\ Below w.heap.size w w' := by
  have HC := Lib.hid (Tryz.stringslite_Clone s w h)
  go_enter Tryz.func38, Tryz.ntmps38
  go_wp2_with (go_at_call 70; refine HC.out.mono ?_; rintro e w1 ⟨rfl, hb⟩)
  go_ret
  exact ⟨rfl, hb⟩
theorem relab_snoc (l : List Fld) (ks : List Int) (h : l.length = ks.length) (f : Fld) (k : Int) : relab (l ++ [f]) (ks ++ [k]) = relab l ks ++ [{ f with pl := k }] := by
  unfold relab
  rw [List.zipWith_append h]; rfl
theorem ownF_nil (B : Nat) (W : World) : OwnF B W (.slice none 0 0) [] := World.ownsRow_nil _ _ _ _
end Go.Proofs.YtjakeidbajkdcaaGreatDoor.T
