/- Joined by program: SBind, SUses, SUses2, SFree. -/
import Derived.Test.YteikpeaakmbihaaDoorG38
import Derived.Test.YteikpeaakmbihaaDoorG20
import Derived.Test.YteikpeaakmbihaaDoorG28
import Derived.Test.YteikpeaakmbihaaDoorG27
import Derived.Test.YteikpeaakmbihaaDoorG39
import Derived.Laws.EntriesVeiled
/- Binders, the program's. -/
namespace Go.Proofs.YteikpeaakmbihaaDoor.T
open Go.RowKit
/-- All binders, as the program lays them. -/
def bdp (l : List Nd) : List (Int × Int) := dn l (l.length - 1) [] (List.replicate l.length (-1, -1))
def BinPost (l : List Nd) (w : World) (e : Ending) (w' : World) : Prop :=
  ∃ gl cl, e = .returned (.tuple #[.slice (some ⟨gl, 0, none⟩) l.length cl, .int .i64 0]) ∧ w'.heap[gl]? = some (.cells (bCells (bdp l)).toArray 59 (0, 0)) ∧ (bdp l).length = l.length ∧ l.length ≤ cl ∧ w.heap.size ≤ gl ∧ Below w.heap.size w w'
/-- The row of no binders lies in its box. -/
def BMid (w W : World) (pl : Nat) (e : Value) (L : Nat) : Prop := ∃ gl, Below w.heap.size w W ∧ W.heap[w.heap.size]? = some (.cells #[e] 24 (0, 0)) ∧ W.heap[pl]? = some (.cells #[.slice (some ⟨gl, 0, none⟩) L L] 51 (0, 0)) ∧ W.heap[gl]? = some (.cells ((List.replicate (2 * L) (-1 : Int)).map (Value.int .i64)).toArray 59 (0, 0)) ∧ w.heap.size ≤ gl
theorem bmid_a {w W : World} {e : Value} {L g : Nat} (hb : Below w.heap.size w W) (he : W.heap[w.heap.size]? = some (.cells #[e] 24 (0, 0))) (hr : W.heap[g]? = some (.cells ((List.replicate (2 * L) (-1 : Int)).map (Value.int .i64)).toArray 59 (0, 0))) (hg : w.heap.size ≤ g) :
    BMid w (W.alloc (.cells #[.slice (some ⟨g, 0, none⟩) L L] 51)) W.heap.size e L := ⟨g, hb.alloc hb.size _, nextAt he, newAt rfl, nextAt hr, hg⟩
theorem bmid_b {w W : World} {e : Value} {L g p : Nat} (hb : Below w.heap.size w W) (he : W.heap[w.heap.size]? = some (.cells #[e] 24 (0, 0))) (hr : W.heap[g]? = some (.cells ((List.replicate (2 * L) (-1 : Int)).map (Value.int .i64)).toArray 59 (0, 0))) (hp : W.heap[p]? = some (.cells #[.slice none 0 0] 51 (0, 0))) (hg : w.heap.size ≤ g) (hpw : w.heap.size ≤ p) :
    BMid w (W.setCell ⟨p, 0, none⟩ (.slice (some ⟨g, 0, none⟩) L L)) p e L :=
  ⟨g, hb.setCell (p := ⟨p, 0, none⟩) hpw _, (set_far _ _ _ _ _ (blk_ne he hp (by decide))).trans he, blk_put (j := 0) hp, (set_far _ _ _ _ _ (blk_ne hr hp (by decide))).trans hr, hg⟩
set_option maxRecDepth 100000 in
set_option maxHeartbeats 8000000 in
theorem bind_bad (l : List Nd) (v : Value) (m : Int) (hm : may l = m) (h0 : m ≠ 0) (w : World) (hK : Kws w.heap.size w) (hN : Nodes w.heap.size w v l) (hS : ∀ x ∈ l, Small x) :
    Calls Tryd.prog 30 #[.agg #[v]] w fun e w' => e = .returned (.tuple #[.slice none 0 0, .int .i64 m]) ∧ Below w.heap.size w w' := by
  obtain ⟨A, c, rfl, h⟩ := hN
  have hN : Nodes w.heap.size w (.slice A l.length c) l := ⟨A, c, rfl, h⟩
  have HB0 : Hid (Below w.heap.size w (w.alloc (.cells #[.slice A l.length c] 24))) := Lib.hid ((Below.refl _ w).alloc (Nat.le_refl _) _)
  have HM : Hid (Calls Tryd.prog 13 #[.agg #[.slice A l.length c]] (w.alloc (.cells #[.slice A l.length c] 24)) fun e w' => e = .returned (.int .i64 m) ∧ Below (w.alloc (.cells #[.slice A l.length c] 24)).heap.size (w.alloc (.cells #[.slice A l.length c] 24)) w') := Lib.hid (hm ▸ may_any l _ _ (Kws_mono (hK.on HB0.out) HB0.out.size) ((hN.below HB0.out).mono HB0.out.size) hS)
  have hmb : (m != 0) = true := by simpa using h0
  clear hm h hN
  go_enter Tryd.func30, Tryd.ntmps30
  go_wp2_with (go_at_call 13; refine HM.out.mono ?_; rintro e w1 ⟨rfl, hb⟩; have HB1 := Lib.hid (below_next HB0.out hb (Nat.le_refl _)); clear hb)
  go_ret2
  exact ⟨rfl, HB1.out⟩
set_option maxRecDepth 100000 in
set_option maxHeartbeats 8000000 in
theorem bind_ok (l : List Nd) (v : Value) (hm : may l = 0) (w : World) (hK : Kws w.heap.size w) (hN : Nodes w.heap.size w v l) (hS : ∀ x ∈ l, Small x) :
    Calls Tryd.prog 30 #[.agg #[v]] w (BinPost l w) := by
  obtain ⟨h1, h6⟩ := may_big hm
  have hk := (may_zero hm).2.1.2.1
  obtain ⟨L, hL⟩ : ∃ L, l.length = L := ⟨_, rfl⟩
  obtain ⟨A, c, rfl, h⟩ := hN
  have hN : Nodes w.heap.size w (.slice A l.length c) l := ⟨A, c, rfl, h⟩
  obtain ⟨_, _, b, o, rfl, hb, hat⟩ : l.length ≤ c ∧ True ∧ ∃ b o, A = some ⟨b, o, none⟩ ∧ b < w.heap.size ∧ NdsAt w.heap.size w b o l := by
    obtain ⟨h1', h2', h3'⟩ := h
    exact ⟨h1'.1, trivial, h3' (by omega)⟩
  have HAT := Lib.hid hat
  have HB0 : Hid (Below w.heap.size w (w.alloc (.cells #[.slice (some ⟨b, o, none⟩) l.length c] 24))) := Lib.hid ((Below.refl _ w).alloc (Nat.le_refl _) _)
  have HM : Hid (Calls Tryd.prog 13 #[.agg #[.slice (some ⟨b, o, none⟩) l.length c]] (w.alloc (.cells #[.slice (some ⟨b, o, none⟩) l.length c] 24)) fun e w' => e = .returned (.int .i64 0) ∧ Below (w.alloc (.cells #[.slice (some ⟨b, o, none⟩) l.length c] 24)).heap.size (w.alloc (.cells #[.slice (some ⟨b, o, none⟩) l.length c] 24)) w') := Lib.hid (hm ▸ may_any l _ _ (Kws_mono (hK.on HB0.out) HB0.out.size) ((hN.below HB0.out).mono HB0.out.size) hS)
  have E0 : Hid ((w.alloc (.cells #[.slice (some ⟨b, o, none⟩) l.length c] 24)).heap[w.heap.size]? = some (.cells #[.slice (some ⟨b, o, none⟩) l.length c] 24 (0, 0))) := Lib.hid (heap_alloc_new w _)
  have HSL : Hid (∀ x ∈ l, x.l.length ≤ 1000000) := Lib.hid fun x hx => (hS x hx).2.2.1
  have HL := Lib.hid hL
  rw [hL] at HM E0 HB0 h1 h6 ⊢
  clear h hN hm hat hL
  go_enter Tryd.func30, Tryd.ntmps30
  go_upto_region 4 with (go_at_call 13; refine HM.out.mono ?_; rintro e w1 ⟨rfl, hb⟩; have HB1 := Lib.hid (below_next HB0.out hb (Nat.le_refl _)); have E1 := Lib.hid (blk_next E0.out hb); clear hb)
  have c1 := (Blk_cell E1.out 0).trans rfl
  have HB1d := Lib.hid HB1.out.drew
  have E1d : Hid (w1.drew.heap[w.heap.size]? = some (.cells #[.slice (some ⟨b, o, none⟩) L c] 24 (0, 0))) := E1
  have hs1 : w.heap.size < w1.heap.size := (Array.getElem?_eq_some_iff.1 E1.out).1
  have d1 : ∀ o', (w1.drew.alloc o').cell? ⟨w.heap.size, 0, none⟩ = some (.slice (some ⟨b, o, none⟩) L c) := fun o' => (Blk_cell (nextAt E1d.out) 0).trans rfl
  go_cut [5] (fun s5 wx => ∃ pl, s5 = .pointer (some ⟨pl, 0, none⟩) ∧ Hid (BMid w wx pl (.slice (some ⟨b, o, none⟩) L c) L))
  case first =>
   go_region_with (first
      | (go_at_call 54; refine (repeat2_any _ L h1 (by omega) _ (by first | exact X3.out _ _ (by simp) | exact nextAt (X3.out _ _ (by simp)))).mono ?_; rintro e w4 ⟨rfl, hg4, hb4⟩; have E4 : Hid (w4.heap[w.heap.size]? = some (.cells #[.slice (some ⟨b, o, none⟩) L c] 24 (0, 0))) := Lib.hid (blk_next (by first | exact nextAt E2.out | exact nextAt (nextAt E2.out)) hb4); have HB4 : Hid (Below w.heap.size w w4) := Lib.hid (below_next (by first | exact HB2.out.alloc HB2.out.size _ | exact (HB2.out.alloc HB2.out.size _).alloc (by have := HB2.out.size; simp; omega) _) hb4 (Nat.le_refl _)); simp only [World.size_alloc] at hg4; have R4 := Lib.hid hg4; have hs4 := hb4.size; have e4 := (Blk_cell E4.out 0).trans rfl; have d4 : ∀ o', (w4.alloc o').cell? ⟨w.heap.size, 0, none⟩ = some (.slice (some ⟨b, o, none⟩) L c) := (fun o' => (Blk_cell (nextAt E4.out) 0).trans rfl);
          (first | (have P4 := blk_next (nextAt P2) hb4; have p4 := (Blk_cell P4 0).trans rfl; have f4 := Blk_frozen P4 0; have P4 := Lib.hid P4) | (have P4 := blk_next (show ((w2.alloc (.cells #[.int .i64 (-1), .int .i64 (-1)] 59)).alloc (.cells #[.slice none 0 0] 51)).heap[w2.heap.size + 1]? = some (.cells #[.slice none 0 0] 51) from newAt (by simp)) hb4; have p4 := (Blk_cell P4 0).trans rfl; have f4 := Blk_frozen P4 0; have P4 := Lib.hid P4) | (have P4 := blk_next (show ((w2.alloc (.cells #[.slice none 0 0] 51)).alloc (.cells #[.int .i64 (-1), .int .i64 (-1)] 59)).heap[w2.heap.size]? = some (.cells #[.slice none 0 0] 51) from nextAt (newAt rfl)) hb4; have p4 := (Blk_cell P4 0).trans rfl; have f4 := Blk_frozen P4 0; have P4 := Lib.hid P4) | skip); clear hg4 hb4)
      | (go_at_call 55; refine (none_any _).mono ?_; rintro e w2 ⟨rfl, hb⟩; have E2 : Hid (w2.heap[w.heap.size]? = some (.cells #[.slice (some ⟨b, o, none⟩) L c] 24 (0, 0))) := Lib.hid (blk_next (by first | exact E1d.out | exact nextAt E1d.out) hb); have HB2 : Hid (Below w.heap.size w w2) := Lib.hid (below_next (by first | exact HB1d.out | exact HB1d.out.alloc HB1d.out.size _) hb (Nat.le_refl _)); have e2 := (Blk_cell E2.out 0).trans rfl; have d2 : ∀ o', (w2.alloc o').cell? ⟨w.heap.size, 0, none⟩ = some (.slice (some ⟨b, o, none⟩) L c) := (fun o' => (Blk_cell (nextAt E2.out) 0).trans rfl); have d3 : ∀ o' o'', ((w2.alloc o').alloc o'').cell? ⟨w.heap.size, 0, none⟩ = some (.slice (some ⟨b, o, none⟩) L c) := (fun o' o'' => (Blk_cell (nextAt (nextAt E2.out)) 0).trans rfl); have X3 : Hid (∀ (W : World) n, W.heap.size = n → (W.alloc (.cells #[.int .i64 (-1), .int .i64 (-1)] 59)).heap[n]? = some (.cells #[.int .i64 (-1), .int .i64 (-1)] 59)) := Lib.hid (fun W n h => newAt h); have hs2 := hb.size; (first | (have P2 := blk_next (show (w1.drew.alloc (.cells #[.slice none 0 0] 51)).heap[w1.heap.size]? = some (.cells #[.slice none 0 0] 51) from newAt rfl) hb) | skip); clear hb))
   all_goals
     go_wp2_with fail
     go_meet
     first
       | exact ⟨_, rfl, Lib.hid (bmid_a HB4.out E4.out R4.out (by simp at hs2 hs4 ⊢; omega))⟩
       | exact ⟨_, rfl, Lib.hid (bmid_b HB4.out E4.out R4.out P4.out (by simp at hs2 hs4 ⊢; omega) (by simp at hs2 hs4 ⊢; omega))⟩
  case rest =>
    obtain ⟨pl, rfl, HM4⟩ := hcut
    obtain ⟨gl, b4, e4, r4, g4, hgl⟩ := HM4.out
    have HDS : Hid (∀ W, Below wc.heap.size wc W → ∀ (pd : Nat), W.heap[pd]? = some (.cells #[.func (.func 56) #[] #[.pointer (some ⟨w.heap.size, 0, none⟩), .pointer (some ⟨pl, 0, none⟩), .pointer (some ⟨pd, 0, none⟩)]] 89 (0, 0)) → DSt w W w.heap.size pl pd gl (some ⟨b, o, none⟩) c L l (List.replicate L (-1, -1))) := Lib.hid fun W hb pd hd => by
      refine ⟨below_next b4 hb (Nat.le_refl _), by rw [HL.out]; exact blk_next e4 hb, by rw [HL.out]; exact blk_next r4 hb, hd, ?_, by rw [List.length_replicate, HL.out], hgl⟩
      rw [← bCells_rep]; exact blk_next g4 hb
    have HDN : Hid (∀ (xs : List (Int × Int)) (v : Value) (W : World) (pd : Nat), Hid (DSt w W w.heap.size pl pd gl (some ⟨b, o, none⟩) c L l xs) → Hid (Chain W v []) → Calls Tryd.prog 56 #[.int .i64 ((L : Int) - 1), v, .pointer (some ⟨w.heap.size, 0, none⟩), .pointer (some ⟨pl, 0, none⟩), .pointer (some ⟨pd, 0, none⟩)] W (DnPost w W w.heap.size pl pd gl (some ⟨b, o, none⟩) c L l (dn l (L - 1) [] xs))) := Lib.hid fun xs v W pd h1 h2 => by
      have h := down_any l hk w w.heap.size pl pd gl b o c L L HL (Nat.le_refl _) hb HAT HSL h6 (L - 1) (by omega) [] xs v W h1 h2
      rwa [show ((L - 1 : Nat) : Int) = (L : Int) - 1 by omega] at h
    have ce := (Blk_cell e4 0).trans rfl
    clear b4 e4 r4 g4
    go_upto_region 7 with fail
    have D5 := Lib.hid (HDS.out _ (((Below.refl wc.heap.size wc).alloc (Nat.le_refl _) (.cells #[.func (.func 56) #[] #[.pointer (some ⟨w.heap.size, 0, none⟩), .pointer (some ⟨pl, 0, none⟩), .pointer (some ⟨wc.heap.size, 0, none⟩)]] 89))) wc.heap.size (newAt rfl))
    have c5 := D5.out.ce
    have d5 := D5.out.cd
    rw [HL.out] at c5
    have s1 : IntKind.i64.wrap ((L : Int) - 1) = (L : Int) - 1 := IntWalk.i64_in _ (by omega)
    go_upto_region 8 with (go_at_call 56; refine (HDN.out _ _ _ _ D5 (Lib.hid rfl)).mono ?_; rintro e w6 ⟨⟨u, rfl⟩, hd6, _⟩; have D6 := Lib.hid hd6; have c6 := D6.out.cr; clear hd6)
    rw [HL.out] at c6
    go_wp2_with fail
    go_ret2
    refine ⟨gl, L, ?_, ?_, ?_, ?_, hgl, D6.out.low⟩
    · rw [HL.out]; rfl
    · have h := D6.out.g
      rw [bdp, HL.out]; exact h
    · have h := D6.out.len
      rw [bdp, HL.out] at *; exact h
    · rw [HL.out]; exact Nat.le_refl _
end Go.Proofs.YteikpeaakmbihaaDoor.T
/- Uses, of both. -/
namespace Go.Proofs.YteikpeaakmbihaaDoor.T
open Go.RowKit Go.Shelf
/-- The places whose binder a node is. -/
def usl (B : List (Int × Int)) (i : Int) : List Int := B.zipIdx.flatMap fun p => if (p.1.1 == i) = true then [(p.2 : Int)] else []
theorem usl_snoc (B : List (Int × Int)) (b : Int × Int) (i : Int) : usl (B ++ [b]) i = usl B i ++ if (b.1 == i) = true then [(B.length : Int)] else [] := by simp [usl, List.zipIdx_append]
theorem usl_len (B : List (Int × Int)) (i : Int) : (usl B i).length ≤ B.length := by
  induction B using snocInd with
  | h0 => simp [usl]
  | h1 B b ih => rw [usl_snoc]; split <;> simp <;> omega
theorem usl_step {B : List (Int × Int)} {q : Nat} {p : Int × Int} (h : B[q]? = some p) (i : Int) : usl (B.take (q + 1)) i = usl (B.take q) i ++ if (p.1 == i) = true then [(q : Int)] else [] := by
  rw [take_snoc _ _ _ h, usl_snoc, List.length_take]
  have := (List.getElem?_eq_some_iff.1 h).1
  rw [Nat.min_eq_left (by omega)]
structure VSt (w W : World) (e : Value) (gl : Nat) (B : List (Int × Int)) (v : Value) (q : Nat) (out : List Int) : Prop where
  low : Below w.heap.size w W
  e : W.heap[w.heap.size]? = some (.cells #[e] 24 (0, 0))
  r : RowB W gl B
  o : W.ownsRow (w.heap.size + 1) 3 1 v q (out.map (Value.int .i64))
section
variable {w W W' : World} {e v v2 : Value} {gl q : Nat} {B : List (Int × Int)} {out : List Int}
theorem VSt.next (h : VSt w W e gl B v q out) (hb : Below W.heap.size W W') : VSt w W' e gl B v q out :=
  ⟨below_next h.low hb (Nat.le_refl _), blk_next h.e hb, h.r.next hb, World.ownsRow.kept h.o (grown_of hb) (ne_none _)⟩
theorem VSt.size (h : VSt w W e gl B v q out) : w.heap.size + 1 ≤ W.heap.size := (Array.getElem?_eq_some_iff.1 h.e).1
theorem VSt.ce (h : VSt w W e gl B v q out) : W.cell? ⟨w.heap.size, 0, none⟩ = some e := (Blk_cell h.e 0).trans rfl
theorem VSt.push {o : Obj} {z : Int} (h : VSt w W e gl B v q out) (h1 : W'.ownsRow (w.heap.size + 1) 3 1 v2 (q + 1) (out.map (Value.int .i64) ++ [.int .i64 z])) (h2 : (W.alloc o).grownBy W' v.ownBlock) : VSt w W' e gl B v2 (q + 1) (out ++ [z]) := by
  have h' := h.next ((Below.refl W.heap.size W).alloc (Nat.le_refl _) o)
  have hs := h'.size
  have hbl : ∀ k, k < w.heap.size + 1 → W'.heap[k]? = (W.alloc o).heap[k]? := fun k hk => h2.block k (by omega) (fun e => by have := (h'.o.lt k e.symm).1; omega)
  exact ⟨⟨h2.os.trans h'.low.os, h2.tape.trans h'.low.tape, h2.output.trans h'.low.output, by have := h2.size; omega, fun k hk => (hbl k (by omega)).trans (h'.low.block k hk)⟩, (hbl _ (by omega)).trans h'.e, h'.r.kept h'.o (by decide) h2, by rw [List.map_append]; exact h1⟩
end
/-- A row of whole numbers, of the call's own, or none. -/
def IntsP (l : List Int) (w : World) (v : Value) (W : World) : Prop := W.ownsRow w.heap.size 3 1 v l.length (l.map (Value.int .i64)) ∧ Below w.heap.size w W
def UsPost (l : List Int) (w : World) (e : Ending) (w' : World) : Prop := ∃ v, e = .returned (.tuple #[v, .int .i64 0]) ∧ IntsP l w v w'
set_option maxRecDepth 100000 in
set_option maxHeartbeats 16000000 in
theorem uses_ok (l : List Nd) (v : Value) (i : Nat) (hm : may l = 0) (hi : i < l.length) (w : World) (hK : Kws w.heap.size w) (hN : Nodes w.heap.size w v l) (hS : ∀ x ∈ l, Small x) :
    Calls Tryd.prog 31 #[.agg #[v], .int .i64 (i : Int)] w (UsPost (usl (bdp l) i) w) := by
  obtain ⟨j0, hj0, hy0, hy1, hy2⟩ := info_parts intInfo
  obtain ⟨h1, h6⟩ := may_big hm
  obtain ⟨L, hL⟩ : ∃ L, l.length = L := ⟨_, rfl⟩
  obtain ⟨B, hB⟩ : ∃ B, bdp l = B := ⟨_, rfl⟩
  obtain ⟨A, c, rfl, h⟩ := hN
  have hN : Nodes w.heap.size w (.slice A l.length c) l := ⟨A, c, rfl, h⟩
  have hb0 := (Below.refl w.heap.size w).alloc (Nat.le_refl _) (.cells #[.slice A l.length c] 24)
  have HB0 : Hid (Below w.heap.size w (w.alloc (.cells #[.slice A l.length c] 24))) := Lib.hid hb0
  have HE0 : Hid ((w.alloc (.cells #[.slice A l.length c] 24)).heap[w.heap.size]? = some (.cells #[.slice A l.length c] 24 (0, 0))) := Lib.hid (newAt rfl)
  have HBI : Hid (Calls Tryd.prog 30 #[.agg #[.slice A L c]] (w.alloc (.cells #[.slice A L c] 24)) fun e w' => ∃ gl cl, e = .returned (.tuple #[.slice (some ⟨gl, 0, none⟩) L cl, .int .i64 0]) ∧ RowB w' gl B ∧ B.length = L ∧ Below (w.alloc (.cells #[.slice A L c] 24)).heap.size (w.alloc (.cells #[.slice A L c] 24)) w') := Lib.hid (by
    have := bind_ok l (.slice A l.length c) hm _ (Kws_mono (hK.on hb0) hb0.size) ((hN.below hb0).mono hb0.size) hS
    rw [hL] at this
    refine this.mono ?_
    rintro e w' ⟨gl, cl, rfl, hg, hlen, _, _, hb⟩
    rw [hB] at hg hlen
    exact ⟨gl, cl, by rw [hL], RowB.blk hg, hlen.trans hL, hb⟩)
  rw [hB]
  rw [hL] at HB0 HE0 h1 h6 hi ⊢
  have hib : decide ((i : Int) < (L : Int)) = true := by simp; omega
  clear hB hN h hb0 hm hK hS hL
  go_enter Tryd.func31, Tryd.ntmps31
  go_wp2_with (go_at_call 30; refine HBI.out.mono ?_; rintro e w1 ⟨gl, cl, rfl, hr, hbl, hb1⟩; have HBL := Lib.hid hbl; have V1 : Hid (VSt w w1 (.slice A L c) gl B (.slice none 0 0) 0 []) := Lib.hid ⟨below_next HB0.out hb1 (Nat.le_refl _), blk_next HE0.out hb1, hr, World.ownsRow_nil _ _ _ _⟩; have c1 := V1.out.ce; clear hr hbl hb1)
  go_loopw [8, 30] (fun s8 s30 wr => ∃ (q : Nat) (v : Value) (n : Nat), s8 = v ∧ s30 = .int .i64 (q : Int) ∧ q ≤ L ∧ n ≤ q ∧ Hid ((usl (B.take q) i).length = n) ∧ Hid (VSt w wr (.slice A L c) gl B v n (usl (B.take q) i))) (fun _ s30 _ => L - (intOf s30).toNat)
  case atStart => exact ⟨0, _, 0, rfl, rfl, Nat.zero_le _, Nat.le_refl _, Lib.hid (by simp [usl]), V1⟩
  case round =>
    obtain ⟨q, u, n, rfl, rfl, hq, hnq, HN, HV⟩ := hrel
    obtain ⟨w2, rfl⟩ : ∃ w2, w2 = wr := ⟨_, rfl⟩
    by_cases hlt : q < L
    · obtain ⟨p, hp⟩ : ∃ p, B[q]? = some p := ⟨_, List.getElem?_eq_getElem (by rw [HBL.out]; exact hlt)⟩
      obtain ⟨z1, z2⟩ := HV.out.r.cell hp
      have HST := Lib.hid (usl_step hp i)
      have hal := (Below.refl w2.heap.size w2).alloc (Nat.le_refl _) (.cells #[.int .i64 p.1, .int .i64 p.2] 59)
      have HV2 := Lib.hid (HV.out.next hal)
      clear hp hal
      cases ht : (p.1 == (i : Int)) with
      | true =>
        have HST2 : Hid (usl (B.take (q + 1)) i = usl (B.take q) i ++ [(q : Int)]) := Lib.hid (by rw [HST.out, if_pos ht])
        clear HST
        obtain ⟨P1, P2⟩ := p
        obtain rfl : P1 = (i : Int) := by simpa using ht
        simp only at z1 z2 HV2
        go_wp2_with (at_builtin; refine wpList_append_own _ rfl _ _ 34 rfl (w.heap.size + 1) 3 j0 (.int .i64 0) 1 8 Tryd.underlying34 hj0 hy0 hy1 hy2 rfl (by decide) _ n _ rfl (HV2.out.o.alloc _) ⟨w2.heap.size + 1, 0, none⟩ 1 1 [.int .i64 (q : Int)] rfl rfl (new1s _ 3 _ _ (by simp)) (fun u hu => by rw [List.mem_singleton.1 hu]; rfl) (by unfold maxLen; omega) (by omega) (by have := HV.out.size; simp; omega) ?_; intro v6 w6 hown6 hgrow6 _; have HS6 := Lib.hid (HV2.out.push hown6 hgrow6); clear hown6 hgrow6)
        rw [← HST2.out] at HS6
        go_roundw
        case rel => exact ⟨q + 1, v6, n + 1, rfl, by go_num, by omega, by omega, Lib.hid (by rw [HST2.out, List.length_append, HN.out]; rfl), HS6⟩
        case measure => simp [intOf]; omega
      | false =>
        have HST2 : Hid (usl (B.take (q + 1)) i = usl (B.take q) i) := Lib.hid (by rw [HST.out, if_neg (by rw [ht]; simp), List.append_nil])
        rw [← HST2.out] at HN HV2
        go_wp2
        go_roundw
        case rel => exact ⟨q + 1, _, n, rfl, by go_num, by omega, by omega, HN, HV2⟩
        case measure => simp [intOf]; omega
    · obtain rfl : q = L := by omega
      go_wp2
      go_ret2
      have hb : B.take q = B := List.take_of_length_le (by rw [HBL.out]; exact Nat.le_refl _)
      have h := HV.out.o
      have hn := HN.out
      rw [hb] at h hn
      subst hn
      exact ⟨_, rfl, row_mono h (by omega), HV.out.low⟩
end Go.Proofs.YteikpeaakmbihaaDoor.T
/- Uses, refused; the document's. -/
namespace Go.Proofs.YteikpeaakmbihaaDoor.T
open Go.RowKit Go.Shelf
set_option maxRecDepth 100000 in
set_option maxHeartbeats 8000000 in
theorem uses_bad (l : List Nd) (v : Value) (i m : Int) (hm : may l = m) (h0 : m ≠ 0) (w : World) (hK : Kws w.heap.size w) (hN : Nodes w.heap.size w v l) (hS : ∀ x ∈ l, Small x) :
    Calls Tryd.prog 31 #[.agg #[v], .int .i64 i] w fun e w' => e = .returned (.tuple #[.slice none 0 0, .int .i64 m]) ∧ Below w.heap.size w w' := by
  obtain ⟨A, c, rfl, h⟩ := hN
  have hN : Nodes w.heap.size w (.slice A l.length c) l := ⟨A, c, rfl, h⟩
  have hb0 := (Below.refl w.heap.size w).alloc (Nat.le_refl _) (.cells #[.slice A l.length c] 24)
  have HB0 := Lib.hid hb0
  have HBI := Lib.hid (bind_bad l (.slice A l.length c) m hm h0 _ (Kws_mono (hK.on hb0) hb0.size) ((hN.below hb0).mono hb0.size) hS)
  have hmb : (m != 0) = true := by simpa using h0
  clear hN h hb0 hm hK hS h0
  go_enter Tryd.func31, Tryd.ntmps31
  go_wp2_with (go_at_call 30; refine HBI.out.mono ?_; rintro e w1 ⟨rfl, hb1⟩; have HB1 := Lib.hid (below_next HB0.out hb1 (Nat.le_refl _)); clear hb1)
  go_ret2
  exact ⟨rfl, HB1.out⟩
set_option maxRecDepth 100000 in
set_option maxHeartbeats 8000000 in
theorem uses_none (l : List Nd) (v : Value) (i : Int) (hm : may l = 0) (hi : i < 0 ∨ (l.length : Int) ≤ i) (w : World) (hK : Kws w.heap.size w) (hN : Nodes w.heap.size w v l) (hS : ∀ x ∈ l, Small x) :
    Calls Tryd.prog 31 #[.agg #[v], .int .i64 i] w fun e w' => e = .returned (.tuple #[.slice none 0 0, .int .i64 3]) ∧ Below w.heap.size w w' := by
  obtain ⟨L, hL⟩ : ∃ L, l.length = L := ⟨_, rfl⟩
  obtain ⟨A, c, rfl, h⟩ := hN
  have hN : Nodes w.heap.size w (.slice A l.length c) l := ⟨A, c, rfl, h⟩
  have hb0 := (Below.refl w.heap.size w).alloc (Nat.le_refl _) (.cells #[.slice A l.length c] 24)
  have HB0 := Lib.hid hb0
  have HE0 : Hid ((w.alloc (.cells #[.slice A l.length c] 24)).heap[w.heap.size]? = some (.cells #[.slice A l.length c] 24 (0, 0))) := Lib.hid (newAt rfl)
  have HBI := Lib.hid (bind_ok l (.slice A l.length c) hm _ (Kws_mono (hK.on hb0) hb0.size) ((hN.below hb0).mono hb0.size) hS)
  rw [hL] at HBI HB0 HE0 hi ⊢
  clear hN h hb0 hm hK hS
  by_cases h1 : i < 0
  · go_enter Tryd.func31, Tryd.ntmps31
    go_wp2_with (go_at_call 30; refine HBI.out.mono ?_; rintro e w1 ⟨gl, cl, rfl, _, _, _, _, hb1⟩; rw [hL]; have HB1 := Lib.hid (below_next HB0.out hb1 (Nat.le_refl _)); have c1 := (Blk_cell (blk_next HE0.out hb1) 0).trans rfl; clear hb1)
    go_ret2
    exact ⟨rfl, HB1.out⟩
  · have h2 : (L : Int) ≤ i := by omega
    have d1 : decide (i < 0) = false := by simpa using h1
    have d2 : decide (i ≥ (L : Int)) = true := by simpa using h2
    clear hi
    go_enter Tryd.func31, Tryd.ntmps31
    go_wp2_with (go_at_call 30; refine HBI.out.mono ?_; rintro e w1 ⟨gl, cl, rfl, _, _, _, _, hb1⟩; rw [hL]; have HB1 := Lib.hid (below_next HB0.out hb1 (Nat.le_refl _)); have c1 := (Blk_cell (blk_next HE0.out hb1) 0).trans rfl; clear hb1)
    go_ret2
    exact ⟨rfl, HB1.out⟩
theorem rbind_law (l : List Nd) (v : Value) (hm : may l = 0) (w : World) (hN : Nodes w.heap.size w v l) (hS : ∀ x ∈ l, x.l.length ≤ 1000000) :
    Calls Tryd.prog 33 #[.agg #[v]] w fun e w' => ∃ g c, e = .returned (.slice (some ⟨g, 0, none⟩) l.length c) ∧ RowB w' g (bdp l) ∧ (bdp l).length = l.length ∧ Below w.heap.size w w' := by
  obtain ⟨h1, h6⟩ := may_big hm
  have hf := (may_zero hm).2.1
  obtain ⟨A, c, rfl, _, _, hq⟩ := hN
  obtain ⟨b, o, rfl, hb, hat⟩ := hq (by omega)
  refine (rbind_any l l.length c b o (Lib.hid rfl) hf.2.1 hf.2.2.1 h1 h6 w hb (Lib.hid hat) (Lib.hid hS)).mono ?_
  rintro e w' ⟨g, c', U, rfl, hU, hr, hbw⟩
  have e : bdp l = bds l U := dn_bds (by omega) hf.2.1 hf.2.2.1 hU.2.1 hU.2.2
  exact ⟨g, c', rfl, e ▸ hr, by rw [e, bds_len], hbw⟩
set_option maxRecDepth 100000 in
set_option maxHeartbeats 16000000 in
theorem ruses_any (l : List Nd) (v : Value) (i : Int) (hm : may l = 0) (w : World) (hN : Nodes w.heap.size w v l) (hS : ∀ x ∈ l, x.l.length ≤ 1000000) :
    Calls Tryd.prog 34 #[.agg #[v], .int .i64 i] w fun e w' => ∃ v, e = .returned v ∧ IntsP (usl (bdp l) i) w v w' := by
  obtain ⟨j0, hj0, hy0, hy1, hy2⟩ := info_parts intInfo
  obtain ⟨h1, h6⟩ := may_big hm
  obtain ⟨L, hL⟩ : ∃ L, l.length = L := ⟨_, rfl⟩
  obtain ⟨B, hB⟩ : ∃ B, bdp l = B := ⟨_, rfl⟩
  obtain ⟨A, c, rfl, h⟩ := hN
  have hN : Nodes w.heap.size w (.slice A l.length c) l := ⟨A, c, rfl, h⟩
  have hb0 := (Below.refl w.heap.size w).alloc (Nat.le_refl _) (.cells #[.slice A l.length c] 24)
  have HB0 := Lib.hid hb0
  have HE0 : Hid ((w.alloc (.cells #[.slice A l.length c] 24)).heap[w.heap.size]? = some (.cells #[.slice A l.length c] 24 (0, 0))) := Lib.hid (newAt rfl)
  have HBI := Lib.hid (rbind_law l (.slice A l.length c) hm _ ((hN.below hb0).mono hb0.size) hS)
  rw [hB] at HBI
  rw [hL] at HBI HB0 HE0 h1 h6 ⊢
  rw [hB]
  clear hB hN h hb0 hm hS hL
  go_enter Tryd.func34, Tryd.ntmps34
  go_wp2_with (go_at_call 33; refine HBI.out.mono ?_; rintro e w1 ⟨gl, cl, rfl, hr, hbl, hb1⟩; have HBL := Lib.hid hbl; have V1 : Hid (VSt w (w1.alloc (.cells #[] 3)) (.slice A L c) gl B (.slice (some ⟨w1.heap.size, 0, none⟩) 0 0) 0 []) := Lib.hid (by
    have hal := (Below.refl w1.heap.size w1).alloc (Nat.le_refl _) (.cells #[] 3)
    have he1 := blk_next HE0.out hb1
    have hs1 := (Array.getElem?_eq_some_iff.1 he1).1
    exact ⟨below_next (below_next HB0.out hb1 (Nat.le_refl _)) hal (Nat.le_refl _), blk_next he1 hal, hr.next hal, World.ownsRow_made (base := w.heap.size + 1) (e := 3) (size := 1) w1 #[] 0 (by omega) (by decide) rfl⟩); have c1 := V1.out.ce; clear hr hbl hb1)
  go_loopw [6, 7] (fun s6 s7 wr => ∃ (q : Nat) (v : Value) (n : Nat), s6 = v ∧ s7 = .int .i64 (q : Int) ∧ q ≤ L ∧ n ≤ q ∧ Hid ((usl (B.take q) i).length = n) ∧ Hid (VSt w wr (.slice A L c) gl B v n (usl (B.take q) i))) (fun _ s7 _ => L - (intOf s7).toNat)
  case atStart => exact ⟨0, _, 0, rfl, rfl, Nat.zero_le _, Nat.le_refl _, Lib.hid (by simp [usl]), V1⟩
  case round =>
    obtain ⟨q, u, n, rfl, rfl, hq, hnq, HN, HV⟩ := hrel
    obtain ⟨w2, rfl⟩ : ∃ w2, w2 = wr := ⟨_, rfl⟩
    have c2 := HV.out.ce
    clear c1
    by_cases hlt : q < L
    · obtain ⟨p, hp⟩ : ∃ p, B[q]? = some p := ⟨_, List.getElem?_eq_getElem (by rw [HBL.out]; exact hlt)⟩
      obtain ⟨z1, z2⟩ := HV.out.r.cell hp
      have HST := Lib.hid (usl_step hp i)
      clear hp z2
      cases ht : (p.1 == i) with
      | true =>
        have HST2 : Hid (usl (B.take (q + 1)) i = usl (B.take q) i ++ [(q : Int)]) := Lib.hid (by rw [HST.out, if_pos ht])
        clear HST
        obtain ⟨P1, P2⟩ := p
        obtain rfl : P1 = i := by simpa using ht
        simp only at z1
        clear ht
        go_wp2_with (at_builtin; refine wpList_append_own _ rfl _ _ 34 rfl (w.heap.size + 1) 3 j0 (.int .i64 0) 1 8 Tryd.underlying34 hj0 hy0 hy1 hy2 rfl (by decide) _ n _ rfl (HV.out.o.alloc _) ⟨w2.heap.size, 0, none⟩ 1 1 [.int .i64 (q : Int)] rfl rfl (new1s _ 3 _ _ rfl) (fun u hu => by rw [List.mem_singleton.1 hu]; rfl) (by unfold maxLen; omega) (by omega) (by have := HV.out.size; simp; omega) ?_; intro v6 w6 hown6 hgrow6 _; have HS6 := Lib.hid (HV.out.push hown6 hgrow6); clear hown6 hgrow6)
        rw [← HST2.out] at HS6
        go_roundw
        case rel => exact ⟨q + 1, v6, n + 1, rfl, by go_num, by omega, by omega, Lib.hid (by rw [HST2.out, List.length_append, HN.out]; rfl), HS6⟩
        case measure => simp [intOf]; omega
      | false =>
        have HST2 : Hid (usl (B.take (q + 1)) i = usl (B.take q) i) := Lib.hid (by rw [HST.out, if_neg (by rw [ht]; simp), List.append_nil])
        rw [← HST2.out] at HN HV
        go_wp2
        go_roundw
        case rel => exact ⟨q + 1, _, n, rfl, by go_num, by omega, by omega, HN, HV⟩
        case measure => simp [intOf]; omega
    · obtain rfl : q = L := by omega
      go_wp2
      go_ret
      have hb : B.take q = B := List.take_of_length_le (by rw [HBL.out]; exact Nat.le_refl _)
      have h := HV.out.o
      have hn := HN.out
      rw [hb] at h hn
      subst hn
      exact ⟨_, rfl, row_mono h (by omega), HV.out.low⟩
end Go.Proofs.YteikpeaakmbihaaDoor.T
/- Free places, of the program; is a tree closed? -/
namespace Go.Proofs.YteikpeaakmbihaaDoor.T
open Go.RowKit Go.Shelf
def isF (x : Nd) (p : Int × Int) : Bool := (x.kind == 4) && ((p.1 == -1) && (p.2 == -1))
/-- The places of what nothing binds. -/
def fpz (Z : List (Nd × (Int × Int))) : List Int := Z.zipIdx.flatMap fun t => if isF t.1.1 t.1.2 = true then [(t.2 : Int)] else []
theorem fpz_snoc (Z : List (Nd × (Int × Int))) (z : Nd × (Int × Int)) : fpz (Z ++ [z]) = fpz Z ++ if isF z.1 z.2 = true then [(Z.length : Int)] else [] := by simp [fpz, List.zipIdx_append]
theorem fpz_step {Z : List (Nd × (Int × Int))} {q : Nat} {x : Nd} {p : Int × Int} (h : Z[q]? = some (x, p)) : fpz (Z.take (q + 1)) = fpz (Z.take q) ++ if isF x p = true then [(q : Int)] else [] := by
  rw [take_snoc _ _ _ h, fpz_snoc, List.length_take]
  have := (List.getElem?_eq_some_iff.1 h).1
  rw [Nat.min_eq_left (by omega)]
theorem zip_at {l : List Nd} {B : List (Int × Int)} {q : Nat} {x : Nd} {p : Int × Int} (h1 : l[q]? = some x) (h2 : B[q]? = some p) : (l.zip B)[q]? = some (x, p) := by
  rw [List.getElem?_zip_eq_some]; exact ⟨h1, h2⟩
def fpl (l : List Nd) : List Int := fpz (l.zip (bdp l))
set_option maxRecDepth 100000 in
set_option maxHeartbeats 8000000 in
theorem places_bad (l : List Nd) (v : Value) (m : Int) (hm : may l = m) (h0 : m ≠ 0) (w : World) (hK : Kws w.heap.size w) (hN : Nodes w.heap.size w v l) (hS : ∀ x ∈ l, Small x) :
    Calls Tryd.prog 61 #[.agg #[v]] w fun e w' => e = .returned (.tuple #[.slice none 0 0, .int .i64 m]) ∧ Below w.heap.size w w' := by
  obtain ⟨A, c, rfl, h⟩ := hN
  have hN : Nodes w.heap.size w (.slice A l.length c) l := ⟨A, c, rfl, h⟩
  have hb0 := (Below.refl w.heap.size w).alloc (Nat.le_refl _) (.cells #[.slice A l.length c] 24)
  have HB0 := Lib.hid hb0
  have HBI := Lib.hid (bind_bad l (.slice A l.length c) m hm h0 _ (Kws_mono (hK.on hb0) hb0.size) ((hN.below hb0).mono hb0.size) hS)
  clear hN h hb0 hm hK hS h0
  go_enter Tryd.func61, Tryd.ntmps61
  go_wp2_with (go_at_call 30; refine HBI.out.mono ?_; rintro e w1 ⟨rfl, hb1⟩; have HB1 := Lib.hid (below_next HB0.out hb1 (Nat.le_refl _)); clear hb1)
  go_loopw [6, 16] (fun s6 s16 wr => s6 = .slice none 0 0 ∧ s16 = .int .i64 0 ∧ wr = w1) (fun _ _ _ => 0)
  case atStart => exact ⟨rfl, rfl, rfl⟩
  case round =>
    obtain ⟨rfl, rfl, hw⟩ := hrel
    subst hw
    go_wp2
    go_ret2
    exact ⟨rfl, HB1.out⟩
set_option maxRecDepth 100000 in
set_option maxHeartbeats 16000000 in
theorem places_ok (l : List Nd) (v : Value) (hm : may l = 0) (w : World) (hK : Kws w.heap.size w) (hN : Nodes w.heap.size w v l) (hS : ∀ x ∈ l, Small x) :
    Calls Tryd.prog 61 #[.agg #[v]] w (UsPost (fpl l) w) := by
  obtain ⟨j0, hj0, hy0, hy1, hy2⟩ := info_parts intInfo
  obtain ⟨h1, h6⟩ := may_big hm
  obtain ⟨L, hL⟩ : ∃ L, l.length = L := ⟨_, rfl⟩
  rw [fpl]
  obtain ⟨B, hB⟩ : ∃ B, bdp l = B := ⟨_, rfl⟩
  obtain ⟨A, c, rfl, h⟩ := hN
  have hN : Nodes w.heap.size w (.slice A l.length c) l := ⟨A, c, rfl, h⟩
  obtain ⟨b, o, rfl, hb, hat⟩ := h.2.2 (by omega)
  have HAT : Hid (∀ (q : Nat) (x : Nd), l[q]? = some x → ∀ W, Below w.heap.size w W → W.cell? ⟨b, o + q * 9, none⟩ = some (.int .i64 x.kind) ∧ W.cell? ⟨b, o + q * 9 + 5, none⟩ = some (.string x.nm)) := Lib.hid fun q x hx W hbw => by
    obtain ⟨_, _, m0, _, _, _, _, m5, _⟩ := hat q x hx
    exact ⟨(hbw.cell (p := ⟨b, _, none⟩) hb).trans m0, (hbw.cell (p := ⟨b, _, none⟩) hb).trans m5⟩
  have hb0 := (Below.refl w.heap.size w).alloc (Nat.le_refl _) (.cells #[.slice (some ⟨b, o, none⟩) l.length c] 24)
  have HB0 := Lib.hid hb0
  have HE0 : Hid ((w.alloc (.cells #[.slice (some ⟨b, o, none⟩) l.length c] 24)).heap[w.heap.size]? = some (.cells #[.slice (some ⟨b, o, none⟩) l.length c] 24 (0, 0))) := Lib.hid (newAt rfl)
  have HBI : Hid (Calls Tryd.prog 30 #[.agg #[.slice (some ⟨b, o, none⟩) L c]] (w.alloc (.cells #[.slice (some ⟨b, o, none⟩) L c] 24)) fun e w' => ∃ gl cl, e = .returned (.tuple #[.slice (some ⟨gl, 0, none⟩) L cl, .int .i64 0]) ∧ RowB w' gl B ∧ B.length = L ∧ Below (w.alloc (.cells #[.slice (some ⟨b, o, none⟩) L c] 24)).heap.size (w.alloc (.cells #[.slice (some ⟨b, o, none⟩) L c] 24)) w') := Lib.hid (by
    have := bind_ok l (.slice (some ⟨b, o, none⟩) l.length c) hm _ (Kws_mono (hK.on hb0) hb0.size) ((hN.below hb0).mono hb0.size) hS
    rw [hL] at this
    refine this.mono ?_
    rintro e w' ⟨gl, cl, rfl, hg, hlen, _, _, hb⟩
    rw [hB] at hg hlen
    exact ⟨gl, cl, by rw [hL], RowB.blk hg, hlen.trans hL, hb⟩)
  have HL := Lib.hid hL
  rw [hB]
  rw [hL] at HB0 HE0 h1 h6
  rw [hL]
  clear hB hN h hb0 hm hK hS hL hat
  go_enter Tryd.func61, Tryd.ntmps61
  go_wp2_with (go_at_call 30; refine HBI.out.mono ?_; rintro e w1 ⟨gl, cl, rfl, hr, hbl, hb1⟩; have HBL := Lib.hid hbl; have V1 : Hid (VSt w w1 (.slice (some ⟨b, o, none⟩) L c) gl B (.slice none 0 0) 0 []) := Lib.hid ⟨below_next HB0.out hb1 (Nat.le_refl _), blk_next HE0.out hb1, hr, World.ownsRow_nil _ _ _ _⟩; clear hr hbl hb1)
  go_loopw [6, 16] (fun s6 s16 wr => ∃ (q : Nat) (v : Value) (n : Nat), v = s6 ∧ s16 = .int .i64 (q : Int) ∧ q ≤ L ∧ n ≤ q ∧ Hid ((fpz ((l.zip B).take q)).length = n) ∧ Hid (VSt w wr (.slice (some ⟨b, o, none⟩) L c) gl B v n (fpz ((l.zip B).take q)))) (fun _ s16 _ => L - (intOf s16).toNat)
  case atStart => exact ⟨0, _, 0, rfl, rfl, Nat.zero_le _, Nat.le_refl _, Lib.hid (by simp [fpz]), V1⟩
  case round =>
    obtain ⟨q, u, n, rfl, rfl, hq, hnq, HN, HV⟩ := hrel
    obtain ⟨w2, rfl⟩ : ∃ w2, w2 = wr := ⟨_, rfl⟩
    by_cases hlt : q < L
    · obtain ⟨⟨P1, P2⟩, hp⟩ : ∃ p, B[q]? = some p := ⟨_, List.getElem?_eq_getElem (by rw [HBL.out]; exact hlt)⟩
      obtain ⟨x, hx⟩ : ∃ x, l[q]? = some x := ⟨_, List.getElem?_eq_getElem (by rw [HL.out]; exact hlt)⟩
      obtain ⟨z1, z2⟩ := HV.out.r.cell hp
      have HST := Lib.hid (fpz_step (zip_at hx hp))
      have HXC := Lib.hid (HAT.out q x hx)
      have hal := (Below.refl w2.heap.size w2).alloc (Nat.le_refl _) (.cells #[.int .i64 P1, .int .i64 P2] 59)
      have HV2 := Lib.hid (HV.out.next hal)
      have B2 : Hid ((w2.alloc (.cells #[.int .i64 P1, .int .i64 P2] 59)).heap[w2.heap.size]? = some (.cells #[.int .i64 P1, .int .i64 P2] 59 (0, 0))) := Lib.hid (newAt rfl)
      obtain ⟨K, hK⟩ : ∃ K, x.kind = K := ⟨_, rfl⟩
      have k0 := (HXC.out _ HV2.out.low).1
      have e0 := HV2.out.ce
      rw [hK] at k0
      have HK := Lib.hid hK
      clear hp hx hal hK
      go_upto_region 6 with fail
      go_cut [32] (fun s32 wx => s32 = .bool (isF x (P1, P2)) ∧ Hid (VSt w wx (.slice (some ⟨b, o, none⟩) L c) gl B u n (fpz ((l.zip B).take q))))
      case first =>
        have HV2d := Lib.hid (HV2.out.next (Below.refl _ _).drew)
        have B2d : Hid ((w2.alloc (.cells #[.int .i64 P1, .int .i64 P2] 59)).drew.heap[w2.heap.size]? = some (.cells #[.int .i64 P1, .int .i64 P2] 59 (0, 0))) := B2
        by_cases h4 : K = 4
        · subst h4
          have HR : Hid (isF x (P1, P2) = ((P1 == -1) && (P2 == -1))) := Lib.hid (by rw [isF, HK.out]; rfl)
          cases t1 : (P1 == -1) with
          | true =>
            obtain rfl : P1 = -1 := by simpa using t1
            cases t2 : (P2 == -1) with
            | true =>
              obtain rfl : P2 = -1 := by simpa using t2
              go_region_held3 (fun W => W.cell? ⟨w.heap.size, 0, none⟩ = some (.slice (some ⟨b, o, none⟩) L c) ∧ W.cell? ⟨b, o + q * 9, none⟩ = some (.int .i64 4) ∧ W.cell? ⟨w2.heap.size, 0, none⟩ = some (.int .i64 (-1)) ∧ W.cell? ⟨w2.heap.size, 1, none⟩ = some (.int .i64 (-1))) (first | exact ⟨HV2d.out.ce, HK.out ▸ (HXC.out _ HV2d.out.low).1, (Blk_cell B2d.out 0).trans rfl, (Blk_cell B2d.out 1).trans rfl⟩ | exact ⟨HV4.out.ce, HK.out ▸ (HXC.out _ HV4.out.low).1, (Blk_cell B4.out 0).trans rfl, (Blk_cell B4.out 1).trans rfl⟩)
                ((go_at_call 55; refine (none_any _).mono ?_; rintro e w4 ⟨rfl, hb⟩; have HV4 := Lib.hid (HV2d.out.next hb); have B4 := Lib.hid (blk_next B2d.out hb); clear hb))
              all_goals
                go_wp2_with fail
                go_meet
                exact ⟨by rw [HR.out]; rfl, HV4⟩
            | false =>
              go_region_held3 (fun W => W.cell? ⟨w.heap.size, 0, none⟩ = some (.slice (some ⟨b, o, none⟩) L c) ∧ W.cell? ⟨b, o + q * 9, none⟩ = some (.int .i64 4) ∧ W.cell? ⟨w2.heap.size, 0, none⟩ = some (.int .i64 (-1)) ∧ W.cell? ⟨w2.heap.size, 1, none⟩ = some (.int .i64 P2)) (first | exact ⟨HV2d.out.ce, HK.out ▸ (HXC.out _ HV2d.out.low).1, (Blk_cell B2d.out 0).trans rfl, (Blk_cell B2d.out 1).trans rfl⟩ | exact ⟨HV4.out.ce, HK.out ▸ (HXC.out _ HV4.out.low).1, (Blk_cell B4.out 0).trans rfl, (Blk_cell B4.out 1).trans rfl⟩)
                ((go_at_call 55; refine (none_any _).mono ?_; rintro e w4 ⟨rfl, hb⟩; have HV4 := Lib.hid (HV2d.out.next hb); have B4 := Lib.hid (blk_next B2d.out hb); clear hb))
              all_goals
                go_wp2_with fail
                go_meet
                exact ⟨by rw [HR.out, t2]; rfl, HV4⟩
          | false =>
            go_region_held3 (fun W => W.cell? ⟨w.heap.size, 0, none⟩ = some (.slice (some ⟨b, o, none⟩) L c) ∧ W.cell? ⟨b, o + q * 9, none⟩ = some (.int .i64 4) ∧ W.cell? ⟨w2.heap.size, 0, none⟩ = some (.int .i64 P1) ∧ W.cell? ⟨w2.heap.size, 1, none⟩ = some (.int .i64 P2)) (first | exact ⟨HV2d.out.ce, HK.out ▸ (HXC.out _ HV2d.out.low).1, (Blk_cell B2d.out 0).trans rfl, (Blk_cell B2d.out 1).trans rfl⟩ | exact ⟨HV4.out.ce, HK.out ▸ (HXC.out _ HV4.out.low).1, (Blk_cell B4.out 0).trans rfl, (Blk_cell B4.out 1).trans rfl⟩)
              ((go_at_call 55; refine (none_any _).mono ?_; rintro e w4 ⟨rfl, hb⟩; have HV4 := Lib.hid (HV2d.out.next hb); have B4 := Lib.hid (blk_next B2d.out hb); clear hb))
            all_goals
              go_wp2_with fail
              go_meet
              exact ⟨by rw [HR.out, t1]; rfl, HV4⟩
        · have h4b : (K == 4) = false := by simpa using h4
          have HR : Hid (isF x (P1, P2) = false) := Lib.hid (by rw [isF, HK.out, h4b]; rfl)
          go_region
          all_goals
            go_wp2_with fail
            go_meet
            exact ⟨by rw [HR.out], HV2d⟩
      case rest =>
        obtain ⟨rfl, HV3⟩ := hcut
        clear k0 e0 z1 z2
        cases ht : isF x (P1, P2) with
        | true =>
          have HST2 : Hid (fpz ((l.zip B).take (q + 1)) = fpz ((l.zip B).take q) ++ [(q : Int)]) := Lib.hid (by rw [HST.out, if_pos ht])
          go_wp2_with (at_builtin; refine wpList_append_own _ rfl _ _ 34 rfl (w.heap.size + 1) 3 j0 (.int .i64 0) 1 8 Tryd.underlying34 hj0 hy0 hy1 hy2 rfl (by decide) _ n _ rfl (HV3.out.o.alloc _) ⟨wc.heap.size, 0, none⟩ 1 1 [.int .i64 (q : Int)] rfl rfl (new1s _ 3 _ _ rfl) (fun u hu => by rw [List.mem_singleton.1 hu]; rfl) (by unfold maxLen; omega) (by omega) (by have := HV3.out.size; simp; omega) ?_; intro v6 w6 hown6 hgrow6 _; have HS6 := Lib.hid (HV3.out.push hown6 hgrow6); clear hown6 hgrow6)
          rw [← HST2.out] at HS6
          go_roundw
          case rel => exact ⟨q + 1, v6, n + 1, rfl, by go_num, by omega, by omega, Lib.hid (by rw [HST2.out, List.length_append, HN.out]; rfl), HS6⟩
          case measure => simp [intOf]; omega
        | false =>
          have HST2 : Hid (fpz ((l.zip B).take (q + 1)) = fpz ((l.zip B).take q)) := Lib.hid (by rw [HST.out, if_neg (by rw [ht]; simp), List.append_nil])
          rw [← HST2.out] at HN HV3
          go_wp2
          go_roundw
          case rel => exact ⟨q + 1, _, n, rfl, by go_num, by omega, by omega, HN, HV3⟩
          case measure => simp [intOf]; omega
    · obtain rfl : q = L := by omega
      go_wp2
      go_ret2
      have hb : (l.zip B).take q = l.zip B := List.take_of_length_le (by rw [List.length_zip, HL.out, HBL.out]; omega)
      have h := HV.out.o
      have hn := HN.out
      rw [hb] at h hn
      subst hn
      exact ⟨_, rfl, row_mono h (by omega), HV.out.low⟩
end Go.Proofs.YteikpeaakmbihaaDoor.T
