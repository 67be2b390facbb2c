/- Joined by program: PJoinNil. -/
import Derived.Test.YteikpeaakmbihaaDoorG37
import Derived.Test.YteikpeaakmbihaaDoorG38
import Derived.Test.YteikpeaakmbihaaDoorG39
/- Join, the program's, of no trees; of any. -/
namespace Go.Proofs.YteikpeaakmbihaaDoor.T
open Go.RowKit Go.Shelf
set_option maxRecDepth 100000 in
set_option maxHeartbeats 16000000 in
theorem pjoin_nil (x : Nd) (FX EA : Option Addr) (fx cl : Nat) (w : World) (hF : Flds w.heap.size w (.slice FX x.l.length fx) x.l) (HX : Clonable x) (hk : kids x = []) :
    Calls Tryd.prog 27 #[.agg (ndArr x (.slice FX x.l.length fx)), .slice EA 0 cl] w (NPost (joinN x []) w) := by
  obtain ⟨j0, hj0, hy0, hy1, hy2⟩ := info_parts ndInfo
  have HFX := Lib.hid hF
  clear hF
  have HS : Hid (JSt [] [] (ndArr x (.slice FX x.l.length fx)) w (((w.alloc (.cells (ndArr x (.slice FX x.l.length fx)) 27)).alloc (.cells #[.slice none 0 0] 24)).alloc (.cells #[.slice none 0 0] 24)) (.slice none 0 0) (.slice none 0 0) 0) := Lib.hid
    ⟨⟨[], rfl, ownN_nil _ _⟩, World.ownsRow_nil _ _ _ _, nextAt (nextAt (newAt rfl)), nextAt (newAt (by simp)), newAt (by simp), (((Below.refl w.heap.size w).alloc (Nat.le_refl _) _).alloc (by simp) _).alloc (by simp; omega) _⟩
  go_enter Tryd.func27, Tryd.ntmps27
  go_wp2
  go_loopw [6, 16] (fun s6 s16 wr => s6 = .slice none 0 0 ∧ s16 = .int .i64 0 ∧ Hid (JSt [] [] (ndArr x (.slice FX x.l.length fx)) w wr (.slice none 0 0) (.slice none 0 0) 0)) (fun _ _ _ => 0)
  case atStart => exact ⟨rfl, rfl, HS⟩
  case round =>
    obtain ⟨rfl, rfl, HS⟩ := hrel
    have hwr := HS.out.size
    obtain ⟨y, hy⟩ : ∃ y, wk x [] = y := ⟨_, rfl⟩
    have HWX : Hid (∀ (W : World), Below wr.heap.size wr W → Calls Tryd.prog 47 #[.agg #[.int .i64 x.kind, .int .i64 x.a, .int .i64 x.b, .int .i64 x.c, .int .i64 x.n, .string x.nm, .string x.s, .slice FX x.l.length fx, .int .i64 x.pos], .slice none 0 0] W fun e W' => ∃ Ay ny ky, e = .returned (.agg #[.int .i64 y.kind, .int .i64 y.a, .int .i64 y.b, .int .i64 y.c, .int .i64 y.n, .string y.nm, .string y.s, .slice Ay ny ky, .int .i64 y.pos]) ∧ OwnF W.heap.size W' (.slice Ay ny ky) y.l ∧ Below W.heap.size W W') := Lib.hid fun W hb => by
      have hbw := below_next HS.out.2.2.2.2.2 hb (Nat.le_refl _)
      have h := with_nil x FX fx W ((HFX.out.below hbw).mono hbw.size) hk HX
      refine Calls.mono h ?_
      rintro e W' ⟨A, c', rfl, h1, h2⟩
      rw [hy] at h1 ⊢
      exact ⟨A, _, c', rfl, h1, h2⟩
    have HJN : Hid (joinN x [] = [] ++ [y]) := Lib.hid (by rw [← hy]; rfl)
    obtain ⟨q0, q1, q2, q3, q4, q5, q6, q7, q8⟩ := nd_cells HS.out.2.2.1
    have c4 := HS.out.c
    have HO0 : Hid (OwnN (w.heap.size + 3) wr (.slice none 0 0) []) := Lib.hid (ownN_nil _ _)
    clear hy
    go_wp2_with fail
    go_region_law (first
      | (refine step_append_own _ rfl _ _ 22 rfl (w.heap.size + 3) 27 j0 (.agg #[.int .i64 0, .int .i64 0, .int .i64 0, .int .i64 0, .int .i64 0, .string ⟨#[]⟩, .string ⟨#[]⟩, .slice none 0 0, .int .i64 0]) 9 104 Tryd.underlying22 hj0 hy0 hy1 hy2 rfl (by decide) _ 0 _ rfl HR5.out ⟨w5.heap.size, 0, none⟩ 1 1 ((ndArr y (.slice Ay ny ky)).toList) rfl rfl HC5.out (nd_one _ _ _ _) (by unfold maxLen; omega) (by omega) (by simp; omega) ?_; intro v8 w8 hown8 hgrow8; obtain ⟨g8, c8, rfl⟩ := ownsRow_succ hown8; have HE8 := Lib.hid (HS.out.drew.node (n := 0) rfl HO4d.out rfl HF5.out HB5.out hown8 hgrow8); have c8' := (Blk_cell HE8.out.1 0).trans rfl; have f8 := Blk_frozen HE8.out.1 0; have c9 := HE8.out.2.c; have c9' := (Blk_cell HE8.out.2.2.2.2.1 0).trans rfl; have f9 := Blk_frozen HE8.out.2.2.2.2.1 0; clear hown8 hgrow8)
      | (go_simp; go_at_call 47; refine (HWX.out _ (Below.refl _ _).drew).mono ?_; rintro e1 w5 ⟨Ay, ny, ky, rfl, hf5, hb5⟩; have HF5 := Lib.hid hf5; have HB5 := Lib.hid hb5; have HO4d := Lib.hid (ownN_grow HO0.out (grown_of (Below.refl wr.heap.size wr).drew)); have HR5 : Hid ((w5.alloc (.cells (ndArr y (.slice Ay ny ky)) 27)).ownsRow (w.heap.size + 3) 27 9 (.slice none 0 0) 0 (nCells [])) := Lib.hid (rown (ownN_grow HO4d.out (grown_of hb5)) rfl _); have HC5 := Lib.hid (new_cellsT w5 27 (ndArr y (.slice Ay ny ky)).toList w5.heap.size rfl); have HS5 := Lib.hid (HS.out.drew.next hb5); have c5 := HS5.out.c; have c5a := fun o => HS5.out.ca o; have hs5 : wr.heap.size ≤ w5.heap.size := hb5.size; clear hf5 hb5))
    all_goals
      go_wp2_with fail
      exact join_ret (f := 0) HE8.out.2 HJN.out rfl (res27 _ _ (w.heap.size + 1) _ _ _ rfl ((Blk_cell (blk_put (j := 0) (v := .slice (some ⟨g8, 0, none⟩) (0 + 1) c8) HE8.out.2.2.2.2.1) 0).trans rfl))
/-- What Join may be handed. -/
def Joined (x : Nd) (ll : List (List Nd)) : Prop := (kids x).length = ll.length ∧ ll.length ≤ 1000 ∧ (ll.map List.length).sum ≤ 100000 ∧ Clonable x ∧ ∀ e ∈ ll, ∀ m ∈ e, Clonable m ∧ ∀ k ∈ kids m, 0 ≤ k ∧ k ≤ 1000000
theorem jn_take {ll : List (List Nd)} (h : (ll.map List.length).sum ≤ 100000) : (∀ q, q ≤ ll.length → (jn (ll.take q)).1.length ≤ 100000) ∧ ∀ q e, ll[q]? = some e → (jn (ll.take q)).1.length + e.length ≤ 100000 := by
  have key : ∀ q, ((ll.take q).map List.length).sum ≤ (ll.map List.length).sum := fun q => by
    have e : ll.map List.length = (ll.take q).map List.length ++ (ll.drop q).map List.length := by rw [← List.map_append, List.take_append_drop]
    rw [e, List.sum_append]
    omega
  refine ⟨fun q _ => by rw [(jn_len _).1]; have := key q; omega, fun q e he => ?_⟩
  rw [(jn_len _).1]
  have := key (q + 1)
  rw [take_snoc _ _ _ he] at this
  simp at this
  simp
  omega
theorem pjoin_law (x : Nd) (ll : List (List Nd)) (fv v : Value) (w : World) (hF : Flds w.heap.size w fv x.l) (hE : Exprs w.heap.size w v ll) (hJ : Joined x ll) : Calls Tryd.prog 27 #[.agg (ndArr x fv), v] w (NPost (joinN x ll) w) := by
  obtain ⟨h1, h2, h3, h4, h5⟩ := hJ
  obtain ⟨FX, fx, rfl, hfx⟩ := hF
  have hF : Flds w.heap.size w (.slice FX x.l.length fx) x.l := ⟨FX, fx, rfl, hfx⟩
  obtain ⟨EA, cl, rfl, hcl, hn, hp⟩ := hE
  by_cases h0 : 0 < ll.length
  · obtain ⟨be, oe, rfl, hbe, he⟩ := hp h0
    exact pjoin_any x ll FX fx cl ll.length be oe w hF h4 (Lib.hid rfl) h0 h2 hbe (Lib.hid he) (Lib.hid fun e he m hm => (h5 e he m hm).1) (Lib.hid fun e he m hm => (h5 e he m hm).2) (Lib.hid (jn_take h3).1) (Lib.hid (jn_take h3).2) (Lib.hid h1)
  · obtain rfl : ll = [] := List.eq_nil_of_length_eq_zero (by omega)
    exact pjoin_nil x FX EA fx cl w hF h4 (List.eq_nil_of_length_eq_zero h1)
theorem rjoin_law (x : Nd) (ll : List (List Nd)) (fv v : Value) (w : World) (hF : Flds w.heap.size w fv x.l) (hE : Exprs w.heap.size w v ll) (hJ : Joined x ll) : Calls Tryd.prog 28 #[.agg (ndArr x fv), v] w (NPost (joinN x ll) w) := by
  obtain ⟨h1, h2, h3, h4, h5⟩ := hJ
  obtain ⟨FX, fx, rfl, hfx⟩ := hF
  have hF : Flds w.heap.size w (.slice FX x.l.length fx) x.l := ⟨FX, fx, rfl, hfx⟩
  obtain ⟨EA, cl, rfl, hcl, hn, hp⟩ := hE
  exact rjoin_any x ll FX EA fx cl ll.length w hF h4.2.2.1 (Lib.hid rfl) h2 (Lib.hid hp) (Lib.hid fun e he m hm => (h5 e he m hm).1.2.2.1) (Lib.hid fun e he m hm => (h5 e he m hm).2) (Lib.hid (jn_take h3).1) (Lib.hid (jn_take h3).2) (Lib.hid h1)
end Go.Proofs.YteikpeaakmbihaaDoor.T
