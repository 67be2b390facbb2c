/- Joined by program: RSameT. -/
import Derived.Test.YteikpeaakmbihaaDoorG43
import Derived.Test.YteikpeaakmbihaaDoorG33
/- Same, the document's; Parents, the program's. -/
namespace Go.Proofs.YteikpeaakmbihaaDoor.T
open Go.RowKit Go.Shelf
/-- What stays through a walk over two trees in boxes. -/
def BSt (w W : World) (A : Option Addr) (ka La : Nat) (la : List Nd) (C : Option Addr) (kc Lc : Nat) (lc : List Nd) : Prop :=
  Below w.heap.size w W ∧ Nodes W.heap.size W (.slice A La ka) la ∧ Nodes W.heap.size W (.slice C Lc kc) lc ∧ W.heap[w.heap.size]? = some (.cells #[.slice A La ka] 24 (0, 0)) ∧ W.heap[w.heap.size + 1]? = some (.cells #[.slice C Lc kc] 24 (0, 0))
section
variable {w W W' : World} {A C : Option Addr} {ka La kc Lc : Nat} {la lc : List Nd}
theorem nodes_next {v : Value} {l : List Nd} (h : Nodes W.heap.size W v l) (hb : Below W.heap.size W W') : Nodes W'.heap.size W' v l := (h.below hb).mono hb.size
theorem nodes_drew {v : Value} {l : List Nd} (h : Nodes W.heap.size W v l) : Nodes W.drew.heap.size W.drew v l := nodes_next h (Below.refl _ _).drew
theorem BSt.next (h : BSt w W A ka La la C kc Lc lc) (hb : Below W.heap.size W W') : BSt w W' A ka La la C kc Lc lc :=
  ⟨below_next h.1 hb (Nat.le_refl _), nodes_next h.2.1 hb, nodes_next h.2.2.1 hb, blk_next h.2.2.2.1 hb, blk_next h.2.2.2.2 hb⟩
theorem BSt.drew (h : BSt w W A ka La la C kc Lc lc) : BSt w W.drew A ka La la C kc Lc lc := h.next (Below.refl _ _).drew
theorem BSt.c2 (h : BSt w W A ka La la C kc Lc lc) : W.cell? ⟨w.heap.size, 0, none⟩ = some (.slice A La ka) := (Blk_cell h.2.2.2.1 0).trans rfl
theorem BSt.c3 (h : BSt w W A ka La la C kc Lc lc) : W.cell? ⟨w.heap.size + 1, 0, none⟩ = some (.slice C Lc kc) := (Blk_cell h.2.2.2.2 0).trans rfl
theorem BSt.start (hA : Nodes w.heap.size w (.slice A La ka) la) (hC : Nodes w.heap.size w (.slice C Lc kc) lc) : BSt w ((w.alloc (.cells #[.slice A La ka] 24)).alloc (.cells #[.slice C Lc kc] 24)) A ka La la C kc Lc lc := by
  have hb : Below w.heap.size w ((w.alloc (.cells #[.slice A La ka] 24)).alloc (.cells #[.slice C Lc kc] 24)) := ((Below.refl _ w).alloc (Nat.le_refl _) _).alloc (by simp) _
  exact ⟨hb, nodes_next hA hb, nodes_next hC hb, nextAt (newAt rfl), newAt (by simp)⟩
end
set_option maxRecDepth 100000 in
set_option maxHeartbeats 8000000 in
theorem rsame_any (l m : List Nd) (va vb : Value) (w : World) (hA : Nodes w.heap.size w va l) (hB : Nodes w.heap.size w vb m) (HS : ∀ x ∈ l, Small x) (HS' : ∀ x ∈ m, Small x) :
    Calls Tryd.prog 23 #[.agg #[va], .agg #[vb]] w fun e w' => e = .returned (.bool (tsm l m)) ∧ Below w.heap.size w w' := by
  obtain ⟨A, ca, rfl, hxa⟩ := hA
  obtain ⟨C, cc, rfl, hxc⟩ := hB
  have S0 := Lib.hid (BSt.start (w := w) (show Nodes w.heap.size w (.slice A l.length ca) l from ⟨A, ca, rfl, hxa⟩) (show Nodes w.heap.size w (.slice C m.length cc) m from ⟨C, cc, rfl, hxc⟩))
  have HML : Hid (∀ (W : World) (v : Value), Nodes W.heap.size W v l → Calls Tryd.prog 11 #[.agg #[v]] W fun e w' => e = .returned (.int .i64 (may l)) ∧ Below W.heap.size W w') := Lib.hid fun W v h => rmay_all l v W h HS
  have HMM : Hid (∀ (W : World) (v : Value), Nodes W.heap.size W v m → Calls Tryd.prog 11 #[.agg #[v]] W fun e w' => e = .returned (.int .i64 (may m)) ∧ Below W.heap.size W w') := Lib.hid fun W v h => rmay_all m v W h HS'
  have HNL : may l = 0 → Hid (∀ (W : World) (A : Option Addr) (c : Nat), Nodes W.heap.size W (.slice A l.length c) l → Calls Tryd.prog 25 #[.agg #[.slice A l.length c]] W fun e w' => ∃ A c, e = .returned (.agg #[.slice A (nrm l).length c]) ∧ Nodes w'.heap.size w' (.slice A (nrm l).length c) (nrm l) ∧ Below W.heap.size W w') := fun h0 => Lib.hid fun W A c h => NPost.nodes (rnorm_any l _ A c rfl h0 W h HS)
  have HNM : may m = 0 → Hid (∀ (W : World) (A : Option Addr) (c : Nat), Nodes W.heap.size W (.slice A m.length c) m → Calls Tryd.prog 25 #[.agg #[.slice A m.length c]] W fun e w' => ∃ A c, e = .returned (.agg #[.slice A (nrm m).length c]) ∧ Nodes w'.heap.size w' (.slice A (nrm m).length c) (nrm m) ∧ Below W.heap.size W w') := fun h0 => Lib.hid fun W A c h => NPost.nodes (rnorm_any m _ A c rfl h0 W h HS')
  have HEQ : Hid (∀ (W : World) (v u : Value), Nodes W.heap.size W v (nrm l) → Nodes W.heap.size W u (nrm m) → Calls Tryd.prog 24 #[.agg #[v], .agg #[u]] W fun e w' => e = .returned (.bool (ln (nrm l) (nrm m))) ∧ Below W.heap.size W w') := Lib.hid fun W v u h1 h2 => rlist_any _ _ v u W h1 h2 (by have := (nrm_few HS).1; omega) (nrm_few HS).2
  unfold tsm
  obtain ⟨ea, hea⟩ : ∃ ea, may l = ea := ⟨_, rfl⟩
  obtain ⟨eb, heb⟩ : ∃ eb, may m = eb := ⟨_, rfl⟩
  rw [hea] at HML HNL ⊢
  rw [heb] at HMM HNM ⊢
  obtain ⟨NA, hNA⟩ : ∃ NA, nrm l = NA := ⟨_, rfl⟩
  obtain ⟨NB, hNB⟩ : ∃ NB, nrm m = NB := ⟨_, rfl⟩
  rw [hNA] at HNL HEQ ⊢
  rw [hNB] at HNM HEQ ⊢
  clear hea heb hNA hNB HS HS' hxa hxc
  by_cases h1 : ea = 0
  · subst h1
    replace HNL := HNL rfl
    by_cases h2 : eb = 0
    · subst h2
      replace HNM := HNM rfl
      go_enter Tryd.func23, Tryd.ntmps23
      go_wp2
      go_region_with (first
        | (go_at_call 24; refine (HEQ.out _ _ _ N3.out N4.out).mono ?_; rintro e w5 ⟨rfl, hb5⟩; have S5 := Lib.hid (S4.out.next hb5); clear hb5)
        | (go_at_call 25; have _tag := N3.out; clear _tag; refine (HNM.out _ _ _ S3.out.2.2.1).mono ?_; rintro e w4 ⟨A4, k4, rfl, hn4, hb4⟩; have S4 := Lib.hid (S3.out.next hb4); have N3 := Lib.hid (nodes_next N3.out hb4); have N4 := Lib.hid hn4; clear hb4 hn4)
        | (go_at_call 25; refine (HNL.out _ _ _ S2.out.2.1).mono ?_; rintro e w3 ⟨A3, k3, rfl, hn3, hb3⟩; have S3 := Lib.hid (S2.out.next hb3); have N3 := Lib.hid hn3; have c33 := S3.out.c3; clear hb3 hn3)
        | (go_at_call 11; have _tag := S1.out; clear _tag; refine (HMM.out _ _ S1.out.2.2.1).mono ?_; rintro e w2 ⟨rfl, hb2⟩; have S2 := Lib.hid (S1.out.next hb2); have c22 := S2.out.c2; have c32 := S2.out.c3; clear hb2)
        | (go_at_call 11; refine (HML.out _ _ S0.out.drew.2.1).mono ?_; rintro e w1 ⟨rfl, hb1⟩; have S1 := Lib.hid (S0.out.drew.next hb1); have c21 := S1.out.c2; have c31 := S1.out.c3; clear hb1))
      all_goals
        go_wp2
        go_ret
        exact ⟨ret_b (by simp), S5.out.1⟩
    · have hz : (eb == 0) = false := by simpa using h2
      go_enter Tryd.func23, Tryd.ntmps23
      go_wp2
      go_region_with (first
        | (go_at_call 11; have _tag := S1.out; clear _tag; refine (HMM.out _ _ S1.out.2.2.1).mono ?_; rintro e w2 ⟨rfl, hb2⟩; have S2 := Lib.hid (S1.out.next hb2); have c22 := S2.out.c2; have c32 := S2.out.c3; clear hb2)
        | (go_at_call 11; refine (HML.out _ _ S0.out.drew.2.1).mono ?_; rintro e w1 ⟨rfl, hb1⟩; have S1 := Lib.hid (S0.out.drew.next hb1); have c21 := S1.out.c2; have c31 := S1.out.c3; clear hb1))
      all_goals
        go_wp2
        go_ret
        exact ⟨ret_b (by simp [*]), S2.out.1⟩
  · have hz : (ea == 0) = false := by simpa using h1
    go_enter Tryd.func23, Tryd.ntmps23
    go_wp2
    go_region_with (go_at_call 11; refine (HML.out _ _ S0.out.drew.2.1).mono ?_; rintro e w1 ⟨rfl, hb1⟩; have S1 := Lib.hid (S0.out.drew.next hb1); have c21 := S1.out.c2; have c31 := S1.out.c3; clear hb1)
    all_goals
      go_wp2
      go_ret
      exact ⟨ret_b (by simp [*]), S1.out.1⟩
end Go.Proofs.YteikpeaakmbihaaDoor.T
