/- Joined by program: PApp. -/
import Derived.Test.YteikpeaakmbihaaDoorG21
import Derived.Test.YteikpeaakmbihaaDoorG24
import Derived.Test.YteikpeaakmbihaaDoorG25
import Derived.Test.YteikpeaakmbihaaDoorG26
import Derived.Maps.AppendAt
/- append of a copy's node, in a region that draws its order, in a round. -/
namespace Go.Proofs.YteikpeaakmbihaaDoor.T
open Go.RowKit Go.Shelf
attribute [local go_sem] Oper.semAt_some
attribute [local go_sem ↓ 2000] builtin_held
theorem append_nd' (W : World) (s1 : Nat) (vA : Option Addr) (pn vc : Nat) (ps : List (Nd × Value)) (y : Nd) (A : Option Addr) (c : Nat) (hpn : pn = ps.length) (hB : s1 + 5 ≤ W.heap.size) (hS : W.heap[s1]? = some (.cells #[.slice vA pn vc] 24)) (hown : OwnN (s1 + 5) W (.slice vA pn vc) ps) (hf : OwnF (s1 + 5) W (.slice A y.l.length c) y.l) (hl : pn ≤ 100000) :
    ∃ g c' w8, Sem.run Tryd.prog (heldAppend #[22, 22] 22 #[.slice vA pn vc, .slice (some ⟨W.heap.size, 0, none⟩) 1 1]) (W.alloc (.cells (ndArr y (.slice A y.l.length c)) 27)) = .ok (.slice (some ⟨g, 0, none⟩) (pn + 1) c') w8 ∧
      OwnN (s1 + 5) w8 (.slice (some ⟨g, 0, none⟩) (pn + 1) c') (ps ++ [(y, .slice A y.l.length c)]) ∧ (W.alloc (.cells (ndArr y (.slice A y.l.length c)) 27)).grownBy w8 (Value.slice vA pn vc).ownBlock ∧ w8.heap[s1]? = some (.cells #[.slice vA pn vc] 24) := by
  subst hpn
  obtain ⟨g, c', w8, h1, h2, h3⟩ := append_nd W (s1 + 5) (.slice vA ps.length vc) ps y A y.l.length c hB hown hf hl
  refine ⟨g, c', w8, h1, h2, h3, ?_⟩
  have hne : (Value.slice vA ps.length vc).ownBlock ≠ some s1 := fun e => by
    have := (own27 hown.1 s1 e).1
    omega
  refine (h3.block s1 (by rw [World.size_alloc]; omega) (fun e => hne e.symm)).trans ?_
  exact (((Below.refl W.heap.size W).alloc (Nat.le_refl _) _).block s1 (by omega)).trans hS
/-- The region that bears this number. -/
def reg (k : Nat) : Code → Option Code
  | .region id ops d => if id = k then some (.region id ops d) else none
  | .seq a b => match reg k a with | some c => some c | none => reg k b
  | .cond _ a b => match reg k a with | some c => some c | none => reg k b
  | .block _ c => reg k c
  | .loop c => reg k c
  | .scope c => reg k c
  | .rangeFunc _ _ a b => match reg k a with | some c => some c | none => reg k b
  | _ => none
noncomputable def reg17 : Code := (Tryd.f20.body.bind (reg 17)).getD .skip
set_option maxRecDepth 1000000 in
set_option maxHeartbeats 8000000 in
theorem app17 (lr m : Nat) (h1m : 1 ≤ m) (hmx : Tryd.prog.follows .mixedOrders = true) (Q : Exit → Act → World → Prop) (HP : Hid (∀ c a a' w, Q (.panic c) a w → Q (.panic c) a' w)) (W6 : World) (e0 s1 gk K ck b o L c p : Nat) (vA : Option Addr) (pn vc : Nat) (ps : List (Nd × Value)) (HPN : Hid (pn = ps.length)) (hpl : pn ≤ 100000)
    (hp : p < L) (hq6 : s1 + 5 ≤ W6.heap.size) (_he0 : e0 < s1) (hE : W6.cell? ⟨e0, 0, none⟩ = some (.slice (some ⟨b, o, none⟩) L c)) (HS6 : Hid (W6.heap[s1]? = some (.cells #[.slice vA pn vc] 24))) (hcs6 : W6.cell? ⟨s1, 0, none⟩ = some (.slice vA pn vc))
    (HOW6 : Hid (OwnN (s1 + 5) W6 (.slice vA pn vc) ps)) (yk ya yb yc yn yp : Int) (ynm ys : ByteArray) (vl : Value)
    (m0 : W6.cell? ⟨b, o + p * 9, none⟩ = some (.int .i64 yk)) (m1 : W6.cell? ⟨b, o + p * 9 + 1, none⟩ = some (.int .i64 ya)) (m2 : W6.cell? ⟨b, o + p * 9 + 2, none⟩ = some (.int .i64 yb)) (m3 : W6.cell? ⟨b, o + p * 9 + 3, none⟩ = some (.int .i64 yc)) (m4 : W6.cell? ⟨b, o + p * 9 + 4, none⟩ = some (.int .i64 yn)) (m5 : W6.cell? ⟨b, o + p * 9 + 5, none⟩ = some (.string ynm)) (m6 : W6.cell? ⟨b, o + p * 9 + 6, none⟩ = some (.string ys)) (m7 : W6.cell? ⟨b, o + p * 9 + 7, none⟩ = some vl) (m8 : W6.cell? ⟨b, o + p * 9 + 8, none⟩ = some (.int .i64 yp))
    (k2 a2 b2 c2 n2 : Int) (nm2 t2 : ByteArray) (l2 : List Fld) (p2 : Int)
    (HWK : Hid (CallsIn (Fence.wide.inRound lr) (m - 1) Tryd.prog 47 #[.agg #[.int .i64 yk, .int .i64 ya, .int .i64 yb, .int .i64 yc, .int .i64 yn, .string ynm, .string ys, vl, .int .i64 yp], .slice (some ⟨gk, 0, none⟩) K ck] W6.drew (fun e w' => ∃ A c, e = .returned (.agg #[.int .i64 k2, .int .i64 a2, .int .i64 b2, .int .i64 c2, .int .i64 n2, .string nm2, .string t2, .slice A l2.length c, .int .i64 p2]) ∧ OwnF W6.drew.heap.size w' (.slice A l2.length c) l2 ∧ Below W6.drew.heap.size W6.drew w')))
    (u0 u1 u3 u4 u5 u6 u8 u11 u12 u13 u14 u15 u16 u17 u18 u19 u20 u21 u22 u23 u24 u25 u26 u27 u28 u29 u30 u31 u32 u33 u34 u35 u36 u37 u38 u39 u40 u41 u42 u43 u44 u45 u46 u47 u48 u49 u50 u51 u52 u53 u54 u55 u56 u57 u58 u59 u60 u61 u62 u63 u64 u65 u66 u67 u68 u69 u70 u71 u72 u73 u74 u75 u76 : Value)
    (HQ : Hid (∀ (t64 t65 t66 t67 t68 t69 t70 t71 t72 t73 t74 t75 : Value) (A7 : Option Addr) (c7 : Nat) (w7 : World) (g8 c8 : Nat) (w8 : World), Below W6.drew.heap.size W6.drew w7 → OwnF W6.drew.heap.size w7 (.slice A7 l2.length c7) l2 → OwnN (s1 + 5) w8 (.slice (some ⟨g8, 0, none⟩) (pn + 1) c8) (ps ++ [(⟨k2, a2, b2, c2, n2, nm2, t2, l2, p2⟩, .slice A7 l2.length c7)]) →
      (w7.alloc (.cells #[.int .i64 k2, .int .i64 a2, .int .i64 b2, .int .i64 c2, .int .i64 n2, .string nm2, .string t2, .slice A7 l2.length c7, .int .i64 p2] 27)).grownBy w8 (Value.slice vA pn vc).ownBlock → w8.heap[s1]? = some (.cells #[.slice vA pn vc] 24) → Q .normal ⟨#[u0, u1, .pointer (some ⟨e0, 0, none⟩), u3, u4, u5, u6, .pointer (some ⟨s1, 0, none⟩), u8, .int .i64 ((p : Nat) : Int), .slice (some ⟨gk, 0, none⟩) K ck, u11, u12, u13, u14, u15, u16, u17, u18, u19, u20, u21, u22, u23, u24, u25, u26, u27, u28, u29, u30, u31, u32, u33, u34, u35, u36, u37, u38, u39, u40, u41, u42, u43, u44, u45, u46, u47, u48, u49, u50, u51, u52, u53, u54, u55, u56, u57, u58, u59, u60, u61, u62, u63, t64, t65, t66, t67, t68, t69, t70, t71, t72, t73, t74, t75, u76], []⟩ (w8.setCell ⟨s1, 0, none⟩ (.slice (some ⟨g8, 0, none⟩) (pn + 1) c8)))) :
    Code.wpIn (Fence.wide.inRound lr) m Tryd.prog reg17 Q ⟨#[u0, u1, .pointer (some ⟨e0, 0, none⟩), u3, u4, u5, u6, .pointer (some ⟨s1, 0, none⟩), u8, .int .i64 ((p : Nat) : Int), .slice (some ⟨gk, 0, none⟩) K ck, u11, u12, u13, u14, u15, u16, u17, u18, u19, u20, u21, u22, u23, u24, u25, u26, u27, u28, u29, u30, u31, u32, u33, u34, u35, u36, u37, u38, u39, u40, u41, u42, u43, u44, u45, u46, u47, u48, u49, u50, u51, u52, u53, u54, u55, u56, u57, u58, u59, u60, u61, u62, u63, u64, u65, u66, u67, u68, u69, u70, u71, u72, u73, u74, u75, u76], []⟩ W6 := by
  conv => arg 4; whnf
  refine wpIn_region_any hmx ?_
  change wpAnyIn _ _ _ _ _ _ _ _ _ (World.drew _)
  refine take_any (i := 0) (v := ?_) (by kernel_rfl) rfl (by kernel_rfl) (by kernel_rfl) (by kernel_rfl) (fun c b u h => HP.out c _ b u h) ⟨Or.inl ⟨by rfl, ?_⟩, fun _ => rfl⟩ ?_
  rotate_left
  · (intro w; go_simp; try with_reducible rfl)
  refine take_any (i := 2) (v := ?_) (by kernel_rfl) rfl (by kernel_rfl) (by kernel_rfl) (by kernel_rfl) (fun c b u h => HP.out c _ b u h) ⟨Or.inl ⟨by rfl, ?_⟩, fun _ => rfl⟩ ?_
  rotate_left
  · (intro w; go_simp; try with_reducible rfl)
  refine take_any (i := 4) (v := ?_) (by kernel_rfl) rfl (by kernel_rfl) (by kernel_rfl) (by kernel_rfl) (fun c b u h => HP.out c _ b u h) ⟨Or.inl ⟨by rfl, ?_⟩, fun _ => rfl⟩ ?_
  rotate_left
  · (intro w; go_simp; try with_reducible rfl)
  refine take_any (i := 7) (v := ?_) (by kernel_rfl) rfl (by kernel_rfl) (by kernel_rfl) (by kernel_rfl) (fun c b u h => HP.out c _ b u h) ⟨Or.inl ⟨by rfl, ?_⟩, fun _ => rfl⟩ ?_
  rotate_left
  · (intro w; go_simp; try with_reducible rfl)
  refine wpAnyIn_ready (rs := [1, 3]) (by kernel_rfl) (by simp) ?_
  refine AllReadyIn.cons rfl (fun K hK => ?_) ?_
  · go_simp
    try (refine hK _ _ ?_; clear hK K)
    refine wpAnyIn_ready (rs := [3]) (by kernel_rfl) (by simp) ?_
    refine AllReadyIn.cons rfl (fun K hK => ?_) ?_
    · go_simp
      try (refine hK _ _ ?_; clear hK K)
      refine take_any (i := 5) (v := ?_) (by kernel_rfl) rfl (by kernel_rfl) (by kernel_rfl) (by kernel_rfl) (fun c b u h => HP.out c _ b u h) ⟨Or.inl ⟨by rfl, ?_⟩, fun _ => rfl⟩ ?_
      rotate_left
      · (intro w; go_simp; try with_reducible rfl)
      refine wpAnyIn_ready (rs := [6]) (by kernel_rfl) (by simp) ?_
      refine AllReadyIn.cons rfl (fun K hK => ?_) ?_
      · go_simp
        try (refine hK _ _ ?_; clear hK K)
        refine wpAnyIn_ready (rs := [8]) (by kernel_rfl) (by simp) ?_
        refine AllReadyIn.cons rfl (fun K hK => ?_) ?_
        · go_simp
          gi_wp2_with (refine ⟨trivial, ?_⟩; gi_at_call 47; refine (HWK.out).mono ?_; rintro e w7 ⟨A7, c7, rfl, hof, hb7⟩; have HB7 := Lib.hid hb7; have HF7 := Lib.hid hof; have hs7 : W6.heap.size ≤ w7.heap.size := (HB7.out.size); have hq7 : s1 < w7.heap.size := (by omega); have HS7 : Hid (w7.heap[s1]? = some (.cells #[.slice vA pn vc] 24)) := (Lib.hid ((HB7.out.block s1 (by show s1 < W6.heap.size; omega)).trans HS6.out)); have cs7 : w7.cell? ⟨s1, 0, none⟩ = some (.slice vA pn vc) := (Blk_cell HS7.out 0).trans rfl; obtain ⟨g8, c8, w8, hap, hown8, hgrow8, hx8⟩ := append_nd' w7 s1 vA pn vc ps ⟨k2, a2, b2, c2, n2, nm2, t2, l2, p2⟩ A7 c7 HPN.out (by omega) HS7.out (ownN_heap HOW6.out (fun g _ hg => HB7.out.block g hg)) (row_mono HF7.out (by show s1 + 5 ≤ W6.heap.size; omega)) hpl; unfold ndArr at hap hgrow8; simp only at hap hgrow8; have HO8 := Lib.hid hown8; have HG8 := Lib.hid hgrow8; have HX8 := Lib.hid hx8; have cs8 : w8.cell? ⟨s1, 0, none⟩ = some (.slice vA pn vc) := (Blk_cell hx8 0).trans rfl; have fs8 : w8.frozen? ⟨s1, 0, none⟩ = false := Blk_frozen hx8 0; clear hof hb7 hown8 hgrow8 hx8)
          try (refine hK _ _ ?_; clear hK K)
          refine wpAnyIn_ready (rs := [9]) (by kernel_rfl) (by simp) ?_
          refine AllReadyIn.cons rfl (fun K hK => ?_) ?_
          · go_simp
            try (refine hK _ _ ?_; clear hK K)
            refine wpAnyIn_ready (rs := [10]) (by kernel_rfl) (by simp) ?_
            refine AllReadyIn.cons rfl (fun K hK => ?_) ?_
            · go_simp
              try (refine hK _ _ ?_; clear hK K)
              refine take_any (i := 11) (v := ?_) (by kernel_rfl) rfl (by kernel_rfl) (by kernel_rfl) (by kernel_rfl) (fun c b u h => HP.out c _ b u h) ⟨Or.inl ⟨by rfl, ?_⟩, fun _ => rfl⟩ ?_
              rotate_left
              · (intro w; go_simp; try with_reducible rfl)
              refine wpAnyIn_ready (rs := [12]) (by kernel_rfl) (by simp) ?_
              refine AllReadyIn.cons rfl (fun K hK => ?_) ?_
              · go_simp
                try (refine hK _ _ ?_; clear hK K)
                refine wpAnyIn_done (by kernel_rfl) ?_ _
                exact HQ.out _ _ _ _ _ _ _ _ _ _ _ _ _ _ _ _ _ _ HB7.out HF7.out HO8.out HG8.out HX8.out
              exact AllReadyIn.nil
            exact AllReadyIn.nil
          exact AllReadyIn.nil
        exact AllReadyIn.nil
      exact AllReadyIn.nil
    exact AllReadyIn.nil
  refine AllReadyIn.cons rfl (fun K hK => ?_) ?_
  · go_simp
    try (refine hK _ _ ?_; clear hK K)
    refine take_any (i := 5) (v := ?_) (by kernel_rfl) rfl (by kernel_rfl) (by kernel_rfl) (by kernel_rfl) (fun c b u h => HP.out c _ b u h) ⟨Or.inl ⟨by rfl, ?_⟩, fun _ => rfl⟩ ?_
    rotate_left
    · (intro w; go_simp; try with_reducible rfl)
    refine wpAnyIn_ready (rs := [1, 6]) (by kernel_rfl) (by simp) ?_
    refine AllReadyIn.cons rfl (fun K hK => ?_) ?_
    · go_simp
      try (refine hK _ _ ?_; clear hK K)
      refine wpAnyIn_ready (rs := [6]) (by kernel_rfl) (by simp) ?_
      refine AllReadyIn.cons rfl (fun K hK => ?_) ?_
      · go_simp
        try (refine hK _ _ ?_; clear hK K)
        refine wpAnyIn_ready (rs := [8]) (by kernel_rfl) (by simp) ?_
        refine AllReadyIn.cons rfl (fun K hK => ?_) ?_
        · go_simp
          gi_wp2_with (refine ⟨trivial, ?_⟩; gi_at_call 47; refine (HWK.out).mono ?_; rintro e w7 ⟨A7, c7, rfl, hof, hb7⟩; have HB7 := Lib.hid hb7; have HF7 := Lib.hid hof; have hs7 : W6.heap.size ≤ w7.heap.size := (HB7.out.size); have hq7 : s1 < w7.heap.size := (by omega); have HS7 : Hid (w7.heap[s1]? = some (.cells #[.slice vA pn vc] 24)) := (Lib.hid ((HB7.out.block s1 (by show s1 < W6.heap.size; omega)).trans HS6.out)); have cs7 : w7.cell? ⟨s1, 0, none⟩ = some (.slice vA pn vc) := (Blk_cell HS7.out 0).trans rfl; obtain ⟨g8, c8, w8, hap, hown8, hgrow8, hx8⟩ := append_nd' w7 s1 vA pn vc ps ⟨k2, a2, b2, c2, n2, nm2, t2, l2, p2⟩ A7 c7 HPN.out (by omega) HS7.out (ownN_heap HOW6.out (fun g _ hg => HB7.out.block g hg)) (row_mono HF7.out (by show s1 + 5 ≤ W6.heap.size; omega)) hpl; unfold ndArr at hap hgrow8; simp only at hap hgrow8; have HO8 := Lib.hid hown8; have HG8 := Lib.hid hgrow8; have HX8 := Lib.hid hx8; have cs8 : w8.cell? ⟨s1, 0, none⟩ = some (.slice vA pn vc) := (Blk_cell hx8 0).trans rfl; have fs8 : w8.frozen? ⟨s1, 0, none⟩ = false := Blk_frozen hx8 0; clear hof hb7 hown8 hgrow8 hx8)
          try (refine hK _ _ ?_; clear hK K)
          refine wpAnyIn_ready (rs := [9]) (by kernel_rfl) (by simp) ?_
          refine AllReadyIn.cons rfl (fun K hK => ?_) ?_
          · go_simp
            try (refine hK _ _ ?_; clear hK K)
            refine wpAnyIn_ready (rs := [10]) (by kernel_rfl) (by simp) ?_
            refine AllReadyIn.cons rfl (fun K hK => ?_) ?_
            · go_simp
              try (refine hK _ _ ?_; clear hK K)
              refine take_any (i := 11) (v := ?_) (by kernel_rfl) rfl (by kernel_rfl) (by kernel_rfl) (by kernel_rfl) (fun c b u h => HP.out c _ b u h) ⟨Or.inl ⟨by rfl, ?_⟩, fun _ => rfl⟩ ?_
              rotate_left
              · (intro w; go_simp; try with_reducible rfl)
              refine wpAnyIn_ready (rs := [12]) (by kernel_rfl) (by simp) ?_
              refine AllReadyIn.cons rfl (fun K hK => ?_) ?_
              · go_simp
                try (refine hK _ _ ?_; clear hK K)
                refine wpAnyIn_done (by kernel_rfl) ?_ _
                exact HQ.out _ _ _ _ _ _ _ _ _ _ _ _ _ _ _ _ _ _ HB7.out HF7.out HO8.out HG8.out HX8.out
              exact AllReadyIn.nil
            exact AllReadyIn.nil
          exact AllReadyIn.nil
        exact AllReadyIn.nil
      exact AllReadyIn.nil
    refine AllReadyIn.cons rfl (fun K hK => ?_) ?_
    · go_simp
      try (refine hK _ _ ?_; clear hK K)
      refine wpAnyIn_ready (rs := [1, 8]) (by kernel_rfl) (by simp) ?_
      refine AllReadyIn.cons rfl (fun K hK => ?_) ?_
      · go_simp
        try (refine hK _ _ ?_; clear hK K)
        refine wpAnyIn_ready (rs := [8]) (by kernel_rfl) (by simp) ?_
        refine AllReadyIn.cons rfl (fun K hK => ?_) ?_
        · go_simp
          gi_wp2_with (refine ⟨trivial, ?_⟩; gi_at_call 47; refine (HWK.out).mono ?_; rintro e w7 ⟨A7, c7, rfl, hof, hb7⟩; have HB7 := Lib.hid hb7; have HF7 := Lib.hid hof; have hs7 : W6.heap.size ≤ w7.heap.size := (HB7.out.size); have hq7 : s1 < w7.heap.size := (by omega); have HS7 : Hid (w7.heap[s1]? = some (.cells #[.slice vA pn vc] 24)) := (Lib.hid ((HB7.out.block s1 (by show s1 < W6.heap.size; omega)).trans HS6.out)); have cs7 : w7.cell? ⟨s1, 0, none⟩ = some (.slice vA pn vc) := (Blk_cell HS7.out 0).trans rfl; obtain ⟨g8, c8, w8, hap, hown8, hgrow8, hx8⟩ := append_nd' w7 s1 vA pn vc ps ⟨k2, a2, b2, c2, n2, nm2, t2, l2, p2⟩ A7 c7 HPN.out (by omega) HS7.out (ownN_heap HOW6.out (fun g _ hg => HB7.out.block g hg)) (row_mono HF7.out (by show s1 + 5 ≤ W6.heap.size; omega)) hpl; unfold ndArr at hap hgrow8; simp only at hap hgrow8; have HO8 := Lib.hid hown8; have HG8 := Lib.hid hgrow8; have HX8 := Lib.hid hx8; have cs8 : w8.cell? ⟨s1, 0, none⟩ = some (.slice vA pn vc) := (Blk_cell hx8 0).trans rfl; have fs8 : w8.frozen? ⟨s1, 0, none⟩ = false := Blk_frozen hx8 0; clear hof hb7 hown8 hgrow8 hx8)
          try (refine hK _ _ ?_; clear hK K)
          refine wpAnyIn_ready (rs := [9]) (by kernel_rfl) (by simp) ?_
          refine AllReadyIn.cons rfl (fun K hK => ?_) ?_
          · go_simp
            try (refine hK _ _ ?_; clear hK K)
            refine wpAnyIn_ready (rs := [10]) (by kernel_rfl) (by simp) ?_
            refine AllReadyIn.cons rfl (fun K hK => ?_) ?_
            · go_simp
              try (refine hK _ _ ?_; clear hK K)
              refine take_any (i := 11) (v := ?_) (by kernel_rfl) rfl (by kernel_rfl) (by kernel_rfl) (by kernel_rfl) (fun c b u h => HP.out c _ b u h) ⟨Or.inl ⟨by rfl, ?_⟩, fun _ => rfl⟩ ?_
              rotate_left
              · (intro w; go_simp; try with_reducible rfl)
              refine wpAnyIn_ready (rs := [12]) (by kernel_rfl) (by simp) ?_
              refine AllReadyIn.cons rfl (fun K hK => ?_) ?_
              · go_simp
                try (refine hK _ _ ?_; clear hK K)
                refine wpAnyIn_done (by kernel_rfl) ?_ _
                exact HQ.out _ _ _ _ _ _ _ _ _ _ _ _ _ _ _ _ _ _ HB7.out HF7.out HO8.out HG8.out HX8.out
              exact AllReadyIn.nil
            exact AllReadyIn.nil
          exact AllReadyIn.nil
        exact AllReadyIn.nil
      refine AllReadyIn.cons rfl (fun K hK => ?_) ?_
      · go_simp
        gi_wp2_with (refine ⟨trivial, ?_⟩; gi_at_call 47; refine (HWK.out).mono ?_; rintro e w7 ⟨A7, c7, rfl, hof, hb7⟩; have HB7 := Lib.hid hb7; have HF7 := Lib.hid hof; have hs7 : W6.heap.size ≤ w7.heap.size := (HB7.out.size); have hq7 : s1 < w7.heap.size := (by omega); have HS7 : Hid (w7.heap[s1]? = some (.cells #[.slice vA pn vc] 24)) := (Lib.hid ((HB7.out.block s1 (by show s1 < W6.heap.size; omega)).trans HS6.out)); have cs7 : w7.cell? ⟨s1, 0, none⟩ = some (.slice vA pn vc) := (Blk_cell HS7.out 0).trans rfl; obtain ⟨g8, c8, w8, hap, hown8, hgrow8, hx8⟩ := append_nd' w7 s1 vA pn vc ps ⟨k2, a2, b2, c2, n2, nm2, t2, l2, p2⟩ A7 c7 HPN.out (by omega) HS7.out (ownN_heap HOW6.out (fun g _ hg => HB7.out.block g hg)) (row_mono HF7.out (by show s1 + 5 ≤ W6.heap.size; omega)) hpl; unfold ndArr at hap hgrow8; simp only at hap hgrow8; have HO8 := Lib.hid hown8; have HG8 := Lib.hid hgrow8; have HX8 := Lib.hid hx8; have cs8 : w8.cell? ⟨s1, 0, none⟩ = some (.slice vA pn vc) := (Blk_cell hx8 0).trans rfl; have fs8 : w8.frozen? ⟨s1, 0, none⟩ = false := Blk_frozen hx8 0; clear hof hb7 hown8 hgrow8 hx8)
        try (refine hK _ _ ?_; clear hK K)
        refine wpAnyIn_ready (rs := [1, 9]) (by kernel_rfl) (by simp) ?_
        refine AllReadyIn.cons rfl (fun K hK => ?_) ?_
        · go_simp
          try (refine hK _ _ ?_; clear hK K)
          refine wpAnyIn_ready (rs := [9]) (by kernel_rfl) (by simp) ?_
          refine AllReadyIn.cons rfl (fun K hK => ?_) ?_
          · go_simp
            try (refine hK _ _ ?_; clear hK K)
            refine wpAnyIn_ready (rs := [10]) (by kernel_rfl) (by simp) ?_
            refine AllReadyIn.cons rfl (fun K hK => ?_) ?_
            · go_simp
              try (refine hK _ _ ?_; clear hK K)
              refine take_any (i := 11) (v := ?_) (by kernel_rfl) rfl (by kernel_rfl) (by kernel_rfl) (by kernel_rfl) (fun c b u h => HP.out c _ b u h) ⟨Or.inl ⟨by rfl, ?_⟩, fun _ => rfl⟩ ?_
              rotate_left
              · (intro w; go_simp; try with_reducible rfl)
              refine wpAnyIn_ready (rs := [12]) (by kernel_rfl) (by simp) ?_
              refine AllReadyIn.cons rfl (fun K hK => ?_) ?_
              · go_simp
                try (refine hK _ _ ?_; clear hK K)
                refine wpAnyIn_done (by kernel_rfl) ?_ _
                exact HQ.out _ _ _ _ _ _ _ _ _ _ _ _ _ _ _ _ _ _ HB7.out HF7.out HO8.out HG8.out HX8.out
              exact AllReadyIn.nil
            exact AllReadyIn.nil
          exact AllReadyIn.nil
        refine AllReadyIn.cons rfl (fun K hK => ?_) ?_
        · go_simp
          try (refine hK _ _ ?_; clear hK K)
          refine wpAnyIn_ready (rs := [1]) (by kernel_rfl) (by simp) ?_
          refine AllReadyIn.cons rfl (fun K hK => ?_) ?_
          · go_simp
            try (refine hK _ _ ?_; clear hK K)
            refine wpAnyIn_ready (rs := [10]) (by kernel_rfl) (by simp) ?_
            refine AllReadyIn.cons rfl (fun K hK => ?_) ?_
            · go_simp
              try (refine hK _ _ ?_; clear hK K)
              refine take_any (i := 11) (v := ?_) (by kernel_rfl) rfl (by kernel_rfl) (by kernel_rfl) (by kernel_rfl) (fun c b u h => HP.out c _ b u h) ⟨Or.inl ⟨by rfl, ?_⟩, fun _ => rfl⟩ ?_
              rotate_left
              · (intro w; go_simp; try with_reducible rfl)
              refine wpAnyIn_ready (rs := [12]) (by kernel_rfl) (by simp) ?_
              refine AllReadyIn.cons rfl (fun K hK => ?_) ?_
              · go_simp
                try (refine hK _ _ ?_; clear hK K)
                refine wpAnyIn_done (by kernel_rfl) ?_ _
                exact HQ.out _ _ _ _ _ _ _ _ _ _ _ _ _ _ _ _ _ _ HB7.out HF7.out HO8.out HG8.out HX8.out
              exact AllReadyIn.nil
            exact AllReadyIn.nil
          exact AllReadyIn.nil
        exact AllReadyIn.nil
      exact AllReadyIn.nil
    exact AllReadyIn.nil
  exact AllReadyIn.nil
set_option maxRecDepth 1000000 in
theorem app17_any (lr m : Nat) (h1m : 1 ≤ m) (hmx : Tryd.prog.follows .mixedOrders = true) (Q : Exit → Act → World → Prop) (W6 : World) (e0 s1 gk K ck b o L c p : Nat) (vA : Option Addr) (pn vc : Nat) (ps : List (Nd × Value)) (HPN : Hid (pn = ps.length)) (hpl : pn ≤ 100000)
    (hp : p < L) (hq6 : s1 + 5 ≤ W6.heap.size) (he0 : e0 < s1) (hE : W6.cell? ⟨e0, 0, none⟩ = some (.slice (some ⟨b, o, none⟩) L c)) (HS6 : Hid (W6.heap[s1]? = some (.cells #[.slice vA pn vc] 24))) (hcs6 : W6.cell? ⟨s1, 0, none⟩ = some (.slice vA pn vc))
    (HOW6 : Hid (OwnN (s1 + 5) W6 (.slice vA pn vc) ps)) (yk ya yb yc yn yp : Int) (ynm ys : ByteArray) (vl : Value)
    (m0 : W6.cell? ⟨b, o + p * 9, none⟩ = some (.int .i64 yk)) (m1 : W6.cell? ⟨b, o + p * 9 + 1, none⟩ = some (.int .i64 ya)) (m2 : W6.cell? ⟨b, o + p * 9 + 2, none⟩ = some (.int .i64 yb)) (m3 : W6.cell? ⟨b, o + p * 9 + 3, none⟩ = some (.int .i64 yc)) (m4 : W6.cell? ⟨b, o + p * 9 + 4, none⟩ = some (.int .i64 yn)) (m5 : W6.cell? ⟨b, o + p * 9 + 5, none⟩ = some (.string ynm)) (m6 : W6.cell? ⟨b, o + p * 9 + 6, none⟩ = some (.string ys)) (m7 : W6.cell? ⟨b, o + p * 9 + 7, none⟩ = some vl) (m8 : W6.cell? ⟨b, o + p * 9 + 8, none⟩ = some (.int .i64 yp))
    (k2 a2 b2 c2 n2 : Int) (nm2 t2 : ByteArray) (l2 : List Fld) (p2 : Int)
    (HWK : Hid (CallsIn (Fence.wide.inRound lr) (m - 1) Tryd.prog 47 #[.agg #[.int .i64 yk, .int .i64 ya, .int .i64 yb, .int .i64 yc, .int .i64 yn, .string ynm, .string ys, vl, .int .i64 yp], .slice (some ⟨gk, 0, none⟩) K ck] W6.drew (fun e w' => ∃ A c, e = .returned (.agg #[.int .i64 k2, .int .i64 a2, .int .i64 b2, .int .i64 c2, .int .i64 n2, .string nm2, .string t2, .slice A l2.length c, .int .i64 p2]) ∧ OwnF W6.drew.heap.size w' (.slice A l2.length c) l2 ∧ Below W6.drew.heap.size W6.drew w')))
    (u0 u1 u3 u4 u5 u6 u8 u11 u12 u13 u14 u15 u16 u17 u18 u19 u20 u21 u22 u23 u24 u25 u26 u27 u28 u29 u30 u31 u32 u33 u34 u35 u36 u37 u38 u39 u40 u41 u42 u43 u44 u45 u46 u47 u48 u49 u50 u51 u52 u53 u54 u55 u56 u57 u58 u59 u60 u61 u62 u63 u64 u65 u66 u67 u68 u69 u70 u71 u72 u73 u74 u75 u76 : Value)
    (HQ : Hid (∀ (t64 t65 t66 t67 t68 t69 t70 t71 t72 t73 t74 t75 : Value) (A7 : Option Addr) (c7 : Nat) (w7 : World) (g8 c8 : Nat) (w8 : World), Below W6.drew.heap.size W6.drew w7 → OwnF W6.drew.heap.size w7 (.slice A7 l2.length c7) l2 → OwnN (s1 + 5) w8 (.slice (some ⟨g8, 0, none⟩) (pn + 1) c8) (ps ++ [(⟨k2, a2, b2, c2, n2, nm2, t2, l2, p2⟩, .slice A7 l2.length c7)]) →
      (w7.alloc (.cells #[.int .i64 k2, .int .i64 a2, .int .i64 b2, .int .i64 c2, .int .i64 n2, .string nm2, .string t2, .slice A7 l2.length c7, .int .i64 p2] 27)).grownBy w8 (Value.slice vA pn vc).ownBlock → w8.heap[s1]? = some (.cells #[.slice vA pn vc] 24) → Q .normal ⟨#[u0, u1, .pointer (some ⟨e0, 0, none⟩), u3, u4, u5, u6, .pointer (some ⟨s1, 0, none⟩), u8, .int .i64 ((p : Nat) : Int), .slice (some ⟨gk, 0, none⟩) K ck, u11, u12, u13, u14, u15, u16, u17, u18, u19, u20, u21, u22, u23, u24, u25, u26, u27, u28, u29, u30, u31, u32, u33, u34, u35, u36, u37, u38, u39, u40, u41, u42, u43, u44, u45, u46, u47, u48, u49, u50, u51, u52, u53, u54, u55, u56, u57, u58, u59, u60, u61, u62, u63, t64, t65, t66, t67, t68, t69, t70, t71, t72, t73, t74, t75, u76], []⟩ (w8.setCell ⟨s1, 0, none⟩ (.slice (some ⟨g8, 0, none⟩) (pn + 1) c8)))) :
    Code.wpIn (Fence.wide.inRound lr) m Tryd.prog reg17 Q ⟨#[u0, u1, .pointer (some ⟨e0, 0, none⟩), u3, u4, u5, u6, .pointer (some ⟨s1, 0, none⟩), u8, .int .i64 ((p : Nat) : Int), .slice (some ⟨gk, 0, none⟩) K ck, u11, u12, u13, u14, u15, u16, u17, u18, u19, u20, u21, u22, u23, u24, u25, u26, u27, u28, u29, u30, u31, u32, u33, u34, u35, u36, u37, u38, u39, u40, u41, u42, u43, u44, u45, u46, u47, u48, u49, u50, u51, u52, u53, u54, u55, u56, u57, u58, u59, u60, u61, u62, u63, u64, u65, u66, u67, u68, u69, u70, u71, u72, u73, u74, u75, u76], []⟩ W6 :=
  Go.wpIn_mono (app17 lr m h1m hmx (fun e a w => e = .normal ∧ Q .normal a w) (Lib.hid (fun c a a' w h => by cases h.1)) W6 e0 s1 gk K ck b o L c p vA pn vc ps HPN hpl hp hq6 he0 hE HS6 hcs6 HOW6 yk ya yb yc yn yp ynm ys vl m0 m1 m2 m3 m4 m5 m6 m7 m8 k2 a2 b2 c2 n2 nm2 t2 l2 p2 HWK _ _ _ _ _ _ _ _ _ _ _ _ _ _ _ _ _ _ _ _ _ _ _ _ _ _ _ _ _ _ _ _ _ _ _ _ _ _ _ _ _ _ _ _ _ _ _ _ _ _ _ _ _ _ _ _ _ _ _ _ _ _ _ _ _ _ _ _ _ _ _ _ _ (Lib.hid (fun _ _ _ _ _ _ _ _ _ _ _ _ A7 c7 w7 g8 c8 w8 h1 h2 h3 h4 h5 => ⟨rfl, HQ.out _ _ _ _ _ _ _ _ _ _ _ _ A7 c7 w7 g8 c8 w8 h1 h2 h3 h4 h5⟩))) (fun e a w h => h.1 ▸ h.2)
end Go.Proofs.YteikpeaakmbihaaDoor.T
