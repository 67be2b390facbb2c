/- Joined by program: PApp, PSub. -/
import Derived.Test.YteikpeaakmbihaaDoorG21
import Derived.Test.YteikpeaakmbihaaDoorG24
import Derived.Test.YteikpeaakmbihaaDoorG25
import Derived.Test.YteikpeaakmbihaaDoorG26
import Derived.Maps.AppendAt
/- append of a copy's node, in a region that draws its order, in a round. -/
namespace Go.Proofs.YteikpeaakmbihaaDoor.T
open Go.RowKit Go.Shelf
attribute [local go_sem] Oper.semAt_some
attribute [local go_sem ↓ 2000] builtin_held
theorem append_nd' (W : World) (s1 : Nat) (vA : Option Addr) (pn vc : Nat) (ps : List (Nd × Value)) (y : Nd) (A : Option Addr) (c : Nat) (hpn : pn = ps.length) (hB : s1 + 5 ≤ W.heap.size) (hS : W.heap[s1]? = some (.cells #[.slice vA pn vc] 24)) (hown : OwnN (s1 + 5) W (.slice vA pn vc) ps) (hf : OwnF (s1 + 5) W (.slice A y.l.length c) y.l) (hl : pn ≤ 100000) :
    ∃ g c' w8, Sem.run Tryd.prog (heldAppend #[22, 22] 22 #[.slice vA pn vc, .slice (some ⟨W.heap.size, 0, none⟩) 1 1]) (W.alloc (.cells (ndArr y (.slice A y.l.length c)) 27)) = .ok (.slice (some ⟨g, 0, none⟩) (pn + 1) c') w8 ∧
      OwnN (s1 + 5) w8 (.slice (some ⟨g, 0, none⟩) (pn + 1) c') (ps ++ [(y, .slice A y.l.length c)]) ∧ (W.alloc (.cells (ndArr y (.slice A y.l.length c)) 27)).grownBy w8 (Value.slice vA pn vc).ownBlock ∧ w8.heap[s1]? = some (.cells #[.slice vA pn vc] 24) := by
  subst hpn
  obtain ⟨g, c', w8, h1, h2, h3⟩ := append_nd W (s1 + 5) (.slice vA ps.length vc) ps y A y.l.length c hB hown hf hl
  refine ⟨g, c', w8, h1, h2, h3, ?_⟩
  have hne : (Value.slice vA ps.length vc).ownBlock ≠ some s1 := fun e => by
    have := (own27 hown.1 s1 e).1
    omega
  refine (h3.block s1 (by rw [World.size_alloc]; omega) (fun e => hne e.symm)).trans ?_
  exact (((Below.refl W.heap.size W).alloc (Nat.le_refl _) _).block s1 (by omega)).trans hS
/-- The region that bears this number. -/
def reg (k : Nat) : Code → Option Code
  | .region id ops d => if id = k then some (.region id ops d) else none
  | .seq a b => match reg k a with | some c => some c | none => reg k b
  | .cond _ a b => match reg k a with | some c => some c | none => reg k b
  | .block _ c => reg k c
  | .loop c => reg k c
  | .scope c => reg k c
  | .rangeFunc _ _ a b => match reg k a with | some c => some c | none => reg k b
  | _ => none
noncomputable def reg17 : Code := (Tryd.f20.body.bind (reg 17)).getD .skip
set_option maxRecDepth 1000000 in
set_option maxHeartbeats 8000000 in
theorem app17 (lr m : Nat) (h1m : 1 ≤ m) (hmx : Tryd.prog.follows .mixedOrders = true) (Q : Exit → Act → World → Prop) (HP : Hid (∀ c a a' w, Q (.panic c) a w → Q (.panic c) a' w)) (W6 : World) (e0 s1 gk K ck b o L c p : Nat) (vA : Option Addr) (pn vc : Nat) (ps : List (Nd × Value)) (HPN : Hid (pn = ps.length)) (hpl : pn ≤ 100000)
    (hp : p < L) (hq6 : s1 + 5 ≤ W6.heap.size) (_he0 : e0 < s1) (hE : W6.cell? ⟨e0, 0, none⟩ = some (.slice (some ⟨b, o, none⟩) L c)) (HS6 : Hid (W6.heap[s1]? = some (.cells #[.slice vA pn vc] 24))) (hcs6 : W6.cell? ⟨s1, 0, none⟩ = some (.slice vA pn vc))
    (HOW6 : Hid (OwnN (s1 + 5) W6 (.slice vA pn vc) ps)) (yk ya yb yc yn yp : Int) (ynm ys : ByteArray) (vl : Value)
    (m0 : W6.cell? ⟨b, o + p * 9, none⟩ = some (.int .i64 yk)) (m1 : W6.cell? ⟨b, o + p * 9 + 1, none⟩ = some (.int .i64 ya)) (m2 : W6.cell? ⟨b, o + p * 9 + 2, none⟩ = some (.int .i64 yb)) (m3 : W6.cell? ⟨b, o + p * 9 + 3, none⟩ = some (.int .i64 yc)) (m4 : W6.cell? ⟨b, o + p * 9 + 4, none⟩ = some (.int .i64 yn)) (m5 : W6.cell? ⟨b, o + p * 9 + 5, none⟩ = some (.string ynm)) (m6 : W6.cell? ⟨b, o + p * 9 + 6, none⟩ = some (.string ys)) (m7 : W6.cell? ⟨b, o + p * 9 + 7, none⟩ = some vl) (m8 : W6.cell? ⟨b, o + p * 9 + 8, none⟩ = some (.int .i64 yp))
    (k2 a2 b2 c2 n2 : Int) (nm2 t2 : ByteArray) (l2 : List Fld) (p2 : Int)
    (HWK : Hid (CallsIn (Fence.wide.inRound lr) (m - 1) Tryd.prog 47 #[.agg #[.int .i64 yk, .int .i64 ya, .int .i64 yb, .int .i64 yc, .int .i64 yn, .string ynm, .string ys, vl, .int .i64 yp], .slice (some ⟨gk, 0, none⟩) K ck] W6.drew (fun e w' => ∃ A c, e = .returned (.agg #[.int .i64 k2, .int .i64 a2, .int .i64 b2, .int .i64 c2, .int .i64 n2, .string nm2, .string t2, .slice A l2.length c, .int .i64 p2]) ∧ OwnF W6.drew.heap.size w' (.slice A l2.length c) l2 ∧ Below W6.drew.heap.size W6.drew w')))
    (u0 u1 u3 u4 u5 u6 u8 u11 u12 u13 u14 u15 u16 u17 u18 u19 u20 u21 u22 u23 u24 u25 u26 u27 u28 u29 u30 u31 u32 u33 u34 u35 u36 u37 u38 u39 u40 u41 u42 u43 u44 u45 u46 u47 u48 u49 u50 u51 u52 u53 u54 u55 u56 u57 u58 u59 u60 u61 u62 u63 u64 u65 u66 u67 u68 u69 u70 u71 u72 u73 u74 u75 u76 : Value)
    (HQ : Hid (∀ (t64 t65 t66 t67 t68 t69 t70 t71 t72 t73 t74 t75 : Value) (A7 : Option Addr) (c7 : Nat) (w7 : World) (g8 c8 : Nat) (w8 : World), Below W6.drew.heap.size W6.drew w7 → OwnF W6.drew.heap.size w7 (.slice A7 l2.length c7) l2 → OwnN (s1 + 5) w8 (.slice (some ⟨g8, 0, none⟩) (pn + 1) c8) (ps ++ [(⟨k2, a2, b2, c2, n2, nm2, t2, l2, p2⟩, .slice A7 l2.length c7)]) →
      (w7.alloc (.cells #[.int .i64 k2, .int .i64 a2, .int .i64 b2, .int .i64 c2, .int .i64 n2, .string nm2, .string t2, .slice A7 l2.length c7, .int .i64 p2] 27)).grownBy w8 (Value.slice vA pn vc).ownBlock → w8.heap[s1]? = some (.cells #[.slice vA pn vc] 24) → Q .normal ⟨#[u0, u1, .pointer (some ⟨e0, 0, none⟩), u3, u4, u5, u6, .pointer (some ⟨s1, 0, none⟩), u8, .int .i64 ((p : Nat) : Int), .slice (some ⟨gk, 0, none⟩) K ck, u11, u12, u13, u14, u15, u16, u17, u18, u19, u20, u21, u22, u23, u24, u25, u26, u27, u28, u29, u30, u31, u32, u33, u34, u35, u36, u37, u38, u39, u40, u41, u42, u43, u44, u45, u46, u47, u48, u49, u50, u51, u52, u53, u54, u55, u56, u57, u58, u59, u60, u61, u62, u63, t64, t65, t66, t67, t68, t69, t70, t71, t72, t73, t74, t75, u76], []⟩ (w8.setCell ⟨s1, 0, none⟩ (.slice (some ⟨g8, 0, none⟩) (pn + 1) c8)))) :
    Code.wpIn (Fence.wide.inRound lr) m Tryd.prog reg17 Q ⟨#[u0, u1, .pointer (some ⟨e0, 0, none⟩), u3, u4, u5, u6, .pointer (some ⟨s1, 0, none⟩), u8, .int .i64 ((p : Nat) : Int), .slice (some ⟨gk, 0, none⟩) K ck, u11, u12, u13, u14, u15, u16, u17, u18, u19, u20, u21, u22, u23, u24, u25, u26, u27, u28, u29, u30, u31, u32, u33, u34, u35, u36, u37, u38, u39, u40, u41, u42, u43, u44, u45, u46, u47, u48, u49, u50, u51, u52, u53, u54, u55, u56, u57, u58, u59, u60, u61, u62, u63, u64, u65, u66, u67, u68, u69, u70, u71, u72, u73, u74, u75, u76], []⟩ W6 := by
  conv => arg 4; whnf
  refine wpIn_region_any hmx ?_
  change wpAnyIn _ _ _ _ _ _ _ _ _ (World.drew _)
  refine take_any (i := 0) (v := ?_) (by kernel_rfl) rfl (by kernel_rfl) (by kernel_rfl) (by kernel_rfl) (fun c b u h => HP.out c _ b u h) ⟨Or.inl ⟨by rfl, ?_⟩, fun _ => rfl⟩ ?_
  rotate_left
  · (intro w; go_simp; try with_reducible rfl)
  refine take_any (i := 2) (v := ?_) (by kernel_rfl) rfl (by kernel_rfl) (by kernel_rfl) (by kernel_rfl) (fun c b u h => HP.out c _ b u h) ⟨Or.inl ⟨by rfl, ?_⟩, fun _ => rfl⟩ ?_
  rotate_left
  · (intro w; go_simp; try with_reducible rfl)
  refine take_any (i := 4) (v := ?_) (by kernel_rfl) rfl (by kernel_rfl) (by kernel_rfl) (by kernel_rfl) (fun c b u h => HP.out c _ b u h) ⟨Or.inl ⟨by rfl, ?_⟩, fun _ => rfl⟩ ?_
  rotate_left
  · (intro w; go_simp; try with_reducible rfl)
  refine take_any (i := 7) (v := ?_) (by kernel_rfl) rfl (by kernel_rfl) (by kernel_rfl) (by kernel_rfl) (fun c b u h => HP.out c _ b u h) ⟨Or.inl ⟨by rfl, ?_⟩, fun _ => rfl⟩ ?_
  rotate_left
  · (intro w; go_simp; try with_reducible rfl)
  refine wpAnyIn_ready (rs := [1, 3]) (by kernel_rfl) (by simp) ?_
  refine AllReadyIn.cons rfl (fun K hK => ?_) ?_
  · go_simp
    try (refine hK _ _ ?_; clear hK K)
    refine wpAnyIn_ready (rs := [3]) (by kernel_rfl) (by simp) ?_
    refine AllReadyIn.cons rfl (fun K hK => ?_) ?_
    · go_simp
      try (refine hK _ _ ?_; clear hK K)
      refine take_any (i := 5) (v := ?_) (by kernel_rfl) rfl (by kernel_rfl) (by kernel_rfl) (by kernel_rfl) (fun c b u h => HP.out c _ b u h) ⟨Or.inl ⟨by rfl, ?_⟩, fun _ => rfl⟩ ?_
      rotate_left
      · (intro w; go_simp; try with_reducible rfl)
      refine wpAnyIn_ready (rs := [6]) (by kernel_rfl) (by simp) ?_
      refine AllReadyIn.cons rfl (fun K hK => ?_) ?_
      · go_simp
        try (refine hK _ _ ?_; clear hK K)
        refine wpAnyIn_ready (rs := [8]) (by kernel_rfl) (by simp) ?_
        refine AllReadyIn.cons rfl (fun K hK => ?_) ?_
        · go_simp
          gi_wp2_with (refine ⟨trivial, ?_⟩; gi_at_call 47; refine (HWK.out).mono ?_; rintro e w7 ⟨A7, c7, rfl, hof, hb7⟩; have HB7 := Lib.hid hb7; have HF7 := Lib.hid hof; have hs7 : W6.heap.size ≤ w7.heap.size := (HB7.out.size); have hq7 : s1 < w7.heap.size := (by omega); have HS7 : Hid (w7.heap[s1]? = some (.cells #[.slice vA pn vc] 24)) := (Lib.hid ((HB7.out.block s1 (by show s1 < W6.heap.size; omega)).trans HS6.out)); have cs7 : w7.cell? ⟨s1, 0, none⟩ = some (.slice vA pn vc) := (Blk_cell HS7.out 0).trans rfl; obtain ⟨g8, c8, w8, hap, hown8, hgrow8, hx8⟩ := append_nd' w7 s1 vA pn vc ps ⟨k2, a2, b2, c2, n2, nm2, t2, l2, p2⟩ A7 c7 HPN.out (by omega) HS7.out (ownN_heap HOW6.out (fun g _ hg => HB7.out.block g hg)) (row_mono HF7.out (by show s1 + 5 ≤ W6.heap.size; omega)) hpl; unfold ndArr at hap hgrow8; simp only at hap hgrow8; have HO8 := Lib.hid hown8; have HG8 := Lib.hid hgrow8; have HX8 := Lib.hid hx8; have cs8 : w8.cell? ⟨s1, 0, none⟩ = some (.slice vA pn vc) := (Blk_cell hx8 0).trans rfl; have fs8 : w8.frozen? ⟨s1, 0, none⟩ = false := Blk_frozen hx8 0; clear hof hb7 hown8 hgrow8 hx8)
          try (refine hK _ _ ?_; clear hK K)
          refine wpAnyIn_ready (rs := [9]) (by kernel_rfl) (by simp) ?_
          refine AllReadyIn.cons rfl (fun K hK => ?_) ?_
          · go_simp
            try (refine hK _ _ ?_; clear hK K)
            refine wpAnyIn_ready (rs := [10]) (by kernel_rfl) (by simp) ?_
            refine AllReadyIn.cons rfl (fun K hK => ?_) ?_
            · go_simp
              try (refine hK _ _ ?_; clear hK K)
              refine take_any (i := 11) (v := ?_) (by kernel_rfl) rfl (by kernel_rfl) (by kernel_rfl) (by kernel_rfl) (fun c b u h => HP.out c _ b u h) ⟨Or.inl ⟨by rfl, ?_⟩, fun _ => rfl⟩ ?_
              rotate_left
              · (intro w; go_simp; try with_reducible rfl)
              refine wpAnyIn_ready (rs := [12]) (by kernel_rfl) (by simp) ?_
              refine AllReadyIn.cons rfl (fun K hK => ?_) ?_
              · go_simp
                try (refine hK _ _ ?_; clear hK K)
                refine wpAnyIn_done (by kernel_rfl) ?_ _
                exact HQ.out _ _ _ _ _ _ _ _ _ _ _ _ _ _ _ _ _ _ HB7.out HF7.out HO8.out HG8.out HX8.out
              exact AllReadyIn.nil
            exact AllReadyIn.nil
          exact AllReadyIn.nil
        exact AllReadyIn.nil
      exact AllReadyIn.nil
    exact AllReadyIn.nil
  refine AllReadyIn.cons rfl (fun K hK => ?_) ?_
  · go_simp
    try (refine hK _ _ ?_; clear hK K)
    refine take_any (i := 5) (v := ?_) (by kernel_rfl) rfl (by kernel_rfl) (by kernel_rfl) (by kernel_rfl) (fun c b u h => HP.out c _ b u h) ⟨Or.inl ⟨by rfl, ?_⟩, fun _ => rfl⟩ ?_
    rotate_left
    · (intro w; go_simp; try with_reducible rfl)
    refine wpAnyIn_ready (rs := [1, 6]) (by kernel_rfl) (by simp) ?_
    refine AllReadyIn.cons rfl (fun K hK => ?_) ?_
    · go_simp
      try (refine hK _ _ ?_; clear hK K)
      refine wpAnyIn_ready (rs := [6]) (by kernel_rfl) (by simp) ?_
      refine AllReadyIn.cons rfl (fun K hK => ?_) ?_
      · go_simp
        try (refine hK _ _ ?_; clear hK K)
        refine wpAnyIn_ready (rs := [8]) (by kernel_rfl) (by simp) ?_
        refine AllReadyIn.cons rfl (fun K hK => ?_) ?_
        · go_simp
          gi_wp2_with (refine ⟨trivial, ?_⟩; gi_at_call 47; refine (HWK.out).mono ?_; rintro e w7 ⟨A7, c7, rfl, hof, hb7⟩; have HB7 := Lib.hid hb7; have HF7 := Lib.hid hof; have hs7 : W6.heap.size ≤ w7.heap.size := (HB7.out.size); have hq7 : s1 < w7.heap.size := (by omega); have HS7 : Hid (w7.heap[s1]? = some (.cells #[.slice vA pn vc] 24)) := (Lib.hid ((HB7.out.block s1 (by show s1 < W6.heap.size; omega)).trans HS6.out)); have cs7 : w7.cell? ⟨s1, 0, none⟩ = some (.slice vA pn vc) := (Blk_cell HS7.out 0).trans rfl; obtain ⟨g8, c8, w8, hap, hown8, hgrow8, hx8⟩ := append_nd' w7 s1 vA pn vc ps ⟨k2, a2, b2, c2, n2, nm2, t2, l2, p2⟩ A7 c7 HPN.out (by omega) HS7.out (ownN_heap HOW6.out (fun g _ hg => HB7.out.block g hg)) (row_mono HF7.out (by show s1 + 5 ≤ W6.heap.size; omega)) hpl; unfold ndArr at hap hgrow8; simp only at hap hgrow8; have HO8 := Lib.hid hown8; have HG8 := Lib.hid hgrow8; have HX8 := Lib.hid hx8; have cs8 : w8.cell? ⟨s1, 0, none⟩ = some (.slice vA pn vc) := (Blk_cell hx8 0).trans rfl; have fs8 : w8.frozen? ⟨s1, 0, none⟩ = false := Blk_frozen hx8 0; clear hof hb7 hown8 hgrow8 hx8)
          try (refine hK _ _ ?_; clear hK K)
          refine wpAnyIn_ready (rs := [9]) (by kernel_rfl) (by simp) ?_
          refine AllReadyIn.cons rfl (fun K hK => ?_) ?_
          · go_simp
            try (refine hK _ _ ?_; clear hK K)
            refine wpAnyIn_ready (rs := [10]) (by kernel_rfl) (by simp) ?_
            refine AllReadyIn.cons rfl (fun K hK => ?_) ?_
            · go_simp
              try (refine hK _ _ ?_; clear hK K)
              refine take_any (i := 11) (v := ?_) (by kernel_rfl) rfl (by kernel_rfl) (by kernel_rfl) (by kernel_rfl) (fun c b u h => HP.out c _ b u h) ⟨Or.inl ⟨by rfl, ?_⟩, fun _ => rfl⟩ ?_
              rotate_left
              · (intro w; go_simp; try with_reducible rfl)
              refine wpAnyIn_ready (rs := [12]) (by kernel_rfl) (by simp) ?_
              refine AllReadyIn.cons rfl (fun K hK => ?_) ?_
              · go_simp
                try (refine hK _ _ ?_; clear hK K)
                refine wpAnyIn_done (by kernel_rfl) ?_ _
                exact HQ.out _ _ _ _ _ _ _ _ _ _ _ _ _ _ _ _ _ _ HB7.out HF7.out HO8.out HG8.out HX8.out
              exact AllReadyIn.nil
            exact AllReadyIn.nil
          exact AllReadyIn.nil
        exact AllReadyIn.nil
      exact AllReadyIn.nil
    refine AllReadyIn.cons rfl (fun K hK => ?_) ?_
    · go_simp
      try (refine hK _ _ ?_; clear hK K)
      refine wpAnyIn_ready (rs := [1, 8]) (by kernel_rfl) (by simp) ?_
      refine AllReadyIn.cons rfl (fun K hK => ?_) ?_
      · go_simp
        try (refine hK _ _ ?_; clear hK K)
        refine wpAnyIn_ready (rs := [8]) (by kernel_rfl) (by simp) ?_
        refine AllReadyIn.cons rfl (fun K hK => ?_) ?_
        · go_simp
          gi_wp2_with (refine ⟨trivial, ?_⟩; gi_at_call 47; refine (HWK.out).mono ?_; rintro e w7 ⟨A7, c7, rfl, hof, hb7⟩; have HB7 := Lib.hid hb7; have HF7 := Lib.hid hof; have hs7 : W6.heap.size ≤ w7.heap.size := (HB7.out.size); have hq7 : s1 < w7.heap.size := (by omega); have HS7 : Hid (w7.heap[s1]? = some (.cells #[.slice vA pn vc] 24)) := (Lib.hid ((HB7.out.block s1 (by show s1 < W6.heap.size; omega)).trans HS6.out)); have cs7 : w7.cell? ⟨s1, 0, none⟩ = some (.slice vA pn vc) := (Blk_cell HS7.out 0).trans rfl; obtain ⟨g8, c8, w8, hap, hown8, hgrow8, hx8⟩ := append_nd' w7 s1 vA pn vc ps ⟨k2, a2, b2, c2, n2, nm2, t2, l2, p2⟩ A7 c7 HPN.out (by omega) HS7.out (ownN_heap HOW6.out (fun g _ hg => HB7.out.block g hg)) (row_mono HF7.out (by show s1 + 5 ≤ W6.heap.size; omega)) hpl; unfold ndArr at hap hgrow8; simp only at hap hgrow8; have HO8 := Lib.hid hown8; have HG8 := Lib.hid hgrow8; have HX8 := Lib.hid hx8; have cs8 : w8.cell? ⟨s1, 0, none⟩ = some (.slice vA pn vc) := (Blk_cell hx8 0).trans rfl; have fs8 : w8.frozen? ⟨s1, 0, none⟩ = false := Blk_frozen hx8 0; clear hof hb7 hown8 hgrow8 hx8)
          try (refine hK _ _ ?_; clear hK K)
          refine wpAnyIn_ready (rs := [9]) (by kernel_rfl) (by simp) ?_
          refine AllReadyIn.cons rfl (fun K hK => ?_) ?_
          · go_simp
            try (refine hK _ _ ?_; clear hK K)
            refine wpAnyIn_ready (rs := [10]) (by kernel_rfl) (by simp) ?_
            refine AllReadyIn.cons rfl (fun K hK => ?_) ?_
            · go_simp
              try (refine hK _ _ ?_; clear hK K)
              refine take_any (i := 11) (v := ?_) (by kernel_rfl) rfl (by kernel_rfl) (by kernel_rfl) (by kernel_rfl) (fun c b u h => HP.out c _ b u h) ⟨Or.inl ⟨by rfl, ?_⟩, fun _ => rfl⟩ ?_
              rotate_left
              · (intro w; go_simp; try with_reducible rfl)
              refine wpAnyIn_ready (rs := [12]) (by kernel_rfl) (by simp) ?_
              refine AllReadyIn.cons rfl (fun K hK => ?_) ?_
              · go_simp
                try (refine hK _ _ ?_; clear hK K)
                refine wpAnyIn_done (by kernel_rfl) ?_ _
                exact HQ.out _ _ _ _ _ _ _ _ _ _ _ _ _ _ _ _ _ _ HB7.out HF7.out HO8.out HG8.out HX8.out
              exact AllReadyIn.nil
            exact AllReadyIn.nil
          exact AllReadyIn.nil
        exact AllReadyIn.nil
      refine AllReadyIn.cons rfl (fun K hK => ?_) ?_
      · go_simp
        gi_wp2_with (refine ⟨trivial, ?_⟩; gi_at_call 47; refine (HWK.out).mono ?_; rintro e w7 ⟨A7, c7, rfl, hof, hb7⟩; have HB7 := Lib.hid hb7; have HF7 := Lib.hid hof; have hs7 : W6.heap.size ≤ w7.heap.size := (HB7.out.size); have hq7 : s1 < w7.heap.size := (by omega); have HS7 : Hid (w7.heap[s1]? = some (.cells #[.slice vA pn vc] 24)) := (Lib.hid ((HB7.out.block s1 (by show s1 < W6.heap.size; omega)).trans HS6.out)); have cs7 : w7.cell? ⟨s1, 0, none⟩ = some (.slice vA pn vc) := (Blk_cell HS7.out 0).trans rfl; obtain ⟨g8, c8, w8, hap, hown8, hgrow8, hx8⟩ := append_nd' w7 s1 vA pn vc ps ⟨k2, a2, b2, c2, n2, nm2, t2, l2, p2⟩ A7 c7 HPN.out (by omega) HS7.out (ownN_heap HOW6.out (fun g _ hg => HB7.out.block g hg)) (row_mono HF7.out (by show s1 + 5 ≤ W6.heap.size; omega)) hpl; unfold ndArr at hap hgrow8; simp only at hap hgrow8; have HO8 := Lib.hid hown8; have HG8 := Lib.hid hgrow8; have HX8 := Lib.hid hx8; have cs8 : w8.cell? ⟨s1, 0, none⟩ = some (.slice vA pn vc) := (Blk_cell hx8 0).trans rfl; have fs8 : w8.frozen? ⟨s1, 0, none⟩ = false := Blk_frozen hx8 0; clear hof hb7 hown8 hgrow8 hx8)
        try (refine hK _ _ ?_; clear hK K)
        refine wpAnyIn_ready (rs := [1, 9]) (by kernel_rfl) (by simp) ?_
        refine AllReadyIn.cons rfl (fun K hK => ?_) ?_
        · go_simp
          try (refine hK _ _ ?_; clear hK K)
          refine wpAnyIn_ready (rs := [9]) (by kernel_rfl) (by simp) ?_
          refine AllReadyIn.cons rfl (fun K hK => ?_) ?_
          · go_simp
            try (refine hK _ _ ?_; clear hK K)
            refine wpAnyIn_ready (rs := [10]) (by kernel_rfl) (by simp) ?_
            refine AllReadyIn.cons rfl (fun K hK => ?_) ?_
            · go_simp
              try (refine hK _ _ ?_; clear hK K)
              refine take_any (i := 11) (v := ?_) (by kernel_rfl) rfl (by kernel_rfl) (by kernel_rfl) (by kernel_rfl) (fun c b u h => HP.out c _ b u h) ⟨Or.inl ⟨by rfl, ?_⟩, fun _ => rfl⟩ ?_
              rotate_left
              · (intro w; go_simp; try with_reducible rfl)
              refine wpAnyIn_ready (rs := [12]) (by kernel_rfl) (by simp) ?_
              refine AllReadyIn.cons rfl (fun K hK => ?_) ?_
              · go_simp
                try (refine hK _ _ ?_; clear hK K)
                refine wpAnyIn_done (by kernel_rfl) ?_ _
                exact HQ.out _ _ _ _ _ _ _ _ _ _ _ _ _ _ _ _ _ _ HB7.out HF7.out HO8.out HG8.out HX8.out
              exact AllReadyIn.nil
            exact AllReadyIn.nil
          exact AllReadyIn.nil
        refine AllReadyIn.cons rfl (fun K hK => ?_) ?_
        · go_simp
          try (refine hK _ _ ?_; clear hK K)
          refine wpAnyIn_ready (rs := [1]) (by kernel_rfl) (by simp) ?_
          refine AllReadyIn.cons rfl (fun K hK => ?_) ?_
          · go_simp
            try (refine hK _ _ ?_; clear hK K)
            refine wpAnyIn_ready (rs := [10]) (by kernel_rfl) (by simp) ?_
            refine AllReadyIn.cons rfl (fun K hK => ?_) ?_
            · go_simp
              try (refine hK _ _ ?_; clear hK K)
              refine take_any (i := 11) (v := ?_) (by kernel_rfl) rfl (by kernel_rfl) (by kernel_rfl) (by kernel_rfl) (fun c b u h => HP.out c _ b u h) ⟨Or.inl ⟨by rfl, ?_⟩, fun _ => rfl⟩ ?_
              rotate_left
              · (intro w; go_simp; try with_reducible rfl)
              refine wpAnyIn_ready (rs := [12]) (by kernel_rfl) (by simp) ?_
              refine AllReadyIn.cons rfl (fun K hK => ?_) ?_
              · go_simp
                try (refine hK _ _ ?_; clear hK K)
                refine wpAnyIn_done (by kernel_rfl) ?_ _
                exact HQ.out _ _ _ _ _ _ _ _ _ _ _ _ _ _ _ _ _ _ HB7.out HF7.out HO8.out HG8.out HX8.out
              exact AllReadyIn.nil
            exact AllReadyIn.nil
          exact AllReadyIn.nil
        exact AllReadyIn.nil
      exact AllReadyIn.nil
    exact AllReadyIn.nil
  exact AllReadyIn.nil
set_option maxRecDepth 1000000 in
theorem app17_any (lr m : Nat) (h1m : 1 ≤ m) (hmx : Tryd.prog.follows .mixedOrders = true) (Q : Exit → Act → World → Prop) (W6 : World) (e0 s1 gk K ck b o L c p : Nat) (vA : Option Addr) (pn vc : Nat) (ps : List (Nd × Value)) (HPN : Hid (pn = ps.length)) (hpl : pn ≤ 100000)
    (hp : p < L) (hq6 : s1 + 5 ≤ W6.heap.size) (he0 : e0 < s1) (hE : W6.cell? ⟨e0, 0, none⟩ = some (.slice (some ⟨b, o, none⟩) L c)) (HS6 : Hid (W6.heap[s1]? = some (.cells #[.slice vA pn vc] 24))) (hcs6 : W6.cell? ⟨s1, 0, none⟩ = some (.slice vA pn vc))
    (HOW6 : Hid (OwnN (s1 + 5) W6 (.slice vA pn vc) ps)) (yk ya yb yc yn yp : Int) (ynm ys : ByteArray) (vl : Value)
    (m0 : W6.cell? ⟨b, o + p * 9, none⟩ = some (.int .i64 yk)) (m1 : W6.cell? ⟨b, o + p * 9 + 1, none⟩ = some (.int .i64 ya)) (m2 : W6.cell? ⟨b, o + p * 9 + 2, none⟩ = some (.int .i64 yb)) (m3 : W6.cell? ⟨b, o + p * 9 + 3, none⟩ = some (.int .i64 yc)) (m4 : W6.cell? ⟨b, o + p * 9 + 4, none⟩ = some (.int .i64 yn)) (m5 : W6.cell? ⟨b, o + p * 9 + 5, none⟩ = some (.string ynm)) (m6 : W6.cell? ⟨b, o + p * 9 + 6, none⟩ = some (.string ys)) (m7 : W6.cell? ⟨b, o + p * 9 + 7, none⟩ = some vl) (m8 : W6.cell? ⟨b, o + p * 9 + 8, none⟩ = some (.int .i64 yp))
    (k2 a2 b2 c2 n2 : Int) (nm2 t2 : ByteArray) (l2 : List Fld) (p2 : Int)
    (HWK : Hid (CallsIn (Fence.wide.inRound lr) (m - 1) Tryd.prog 47 #[.agg #[.int .i64 yk, .int .i64 ya, .int .i64 yb, .int .i64 yc, .int .i64 yn, .string ynm, .string ys, vl, .int .i64 yp], .slice (some ⟨gk, 0, none⟩) K ck] W6.drew (fun e w' => ∃ A c, e = .returned (.agg #[.int .i64 k2, .int .i64 a2, .int .i64 b2, .int .i64 c2, .int .i64 n2, .string nm2, .string t2, .slice A l2.length c, .int .i64 p2]) ∧ OwnF W6.drew.heap.size w' (.slice A l2.length c) l2 ∧ Below W6.drew.heap.size W6.drew w')))
    (u0 u1 u3 u4 u5 u6 u8 u11 u12 u13 u14 u15 u16 u17 u18 u19 u20 u21 u22 u23 u24 u25 u26 u27 u28 u29 u30 u31 u32 u33 u34 u35 u36 u37 u38 u39 u40 u41 u42 u43 u44 u45 u46 u47 u48 u49 u50 u51 u52 u53 u54 u55 u56 u57 u58 u59 u60 u61 u62 u63 u64 u65 u66 u67 u68 u69 u70 u71 u72 u73 u74 u75 u76 : Value)
    (HQ : Hid (∀ (t64 t65 t66 t67 t68 t69 t70 t71 t72 t73 t74 t75 : Value) (A7 : Option Addr) (c7 : Nat) (w7 : World) (g8 c8 : Nat) (w8 : World), Below W6.drew.heap.size W6.drew w7 → OwnF W6.drew.heap.size w7 (.slice A7 l2.length c7) l2 → OwnN (s1 + 5) w8 (.slice (some ⟨g8, 0, none⟩) (pn + 1) c8) (ps ++ [(⟨k2, a2, b2, c2, n2, nm2, t2, l2, p2⟩, .slice A7 l2.length c7)]) →
      (w7.alloc (.cells #[.int .i64 k2, .int .i64 a2, .int .i64 b2, .int .i64 c2, .int .i64 n2, .string nm2, .string t2, .slice A7 l2.length c7, .int .i64 p2] 27)).grownBy w8 (Value.slice vA pn vc).ownBlock → w8.heap[s1]? = some (.cells #[.slice vA pn vc] 24) → Q .normal ⟨#[u0, u1, .pointer (some ⟨e0, 0, none⟩), u3, u4, u5, u6, .pointer (some ⟨s1, 0, none⟩), u8, .int .i64 ((p : Nat) : Int), .slice (some ⟨gk, 0, none⟩) K ck, u11, u12, u13, u14, u15, u16, u17, u18, u19, u20, u21, u22, u23, u24, u25, u26, u27, u28, u29, u30, u31, u32, u33, u34, u35, u36, u37, u38, u39, u40, u41, u42, u43, u44, u45, u46, u47, u48, u49, u50, u51, u52, u53, u54, u55, u56, u57, u58, u59, u60, u61, u62, u63, t64, t65, t66, t67, t68, t69, t70, t71, t72, t73, t74, t75, u76], []⟩ (w8.setCell ⟨s1, 0, none⟩ (.slice (some ⟨g8, 0, none⟩) (pn + 1) c8)))) :
    Code.wpIn (Fence.wide.inRound lr) m Tryd.prog reg17 Q ⟨#[u0, u1, .pointer (some ⟨e0, 0, none⟩), u3, u4, u5, u6, .pointer (some ⟨s1, 0, none⟩), u8, .int .i64 ((p : Nat) : Int), .slice (some ⟨gk, 0, none⟩) K ck, u11, u12, u13, u14, u15, u16, u17, u18, u19, u20, u21, u22, u23, u24, u25, u26, u27, u28, u29, u30, u31, u32, u33, u34, u35, u36, u37, u38, u39, u40, u41, u42, u43, u44, u45, u46, u47, u48, u49, u50, u51, u52, u53, u54, u55, u56, u57, u58, u59, u60, u61, u62, u63, u64, u65, u66, u67, u68, u69, u70, u71, u72, u73, u74, u75, u76], []⟩ W6 :=
  Go.wpIn_mono (app17 lr m h1m hmx (fun e a w => e = .normal ∧ Q .normal a w) (Lib.hid (fun c a a' w h => by cases h.1)) W6 e0 s1 gk K ck b o L c p vA pn vc ps HPN hpl hp hq6 he0 hE HS6 hcs6 HOW6 yk ya yb yc yn yp ynm ys vl m0 m1 m2 m3 m4 m5 m6 m7 m8 k2 a2 b2 c2 n2 nm2 t2 l2 p2 HWK _ _ _ _ _ _ _ _ _ _ _ _ _ _ _ _ _ _ _ _ _ _ _ _ _ _ _ _ _ _ _ _ _ _ _ _ _ _ _ _ _ _ _ _ _ _ _ _ _ _ _ _ _ _ _ _ _ _ _ _ _ _ _ _ _ _ _ _ _ _ _ _ _ (Lib.hid (fun _ _ _ _ _ _ _ _ _ _ _ _ A7 c7 w7 g8 c8 w8 h1 h2 h3 h4 h5 => ⟨rfl, HQ.out _ _ _ _ _ _ _ _ _ _ _ _ A7 c7 w7 g8 c8 w8 h1 h2 h3 h4 h5⟩))) (fun e a w h => h.1 ▸ h.2)
end Go.Proofs.YteikpeaakmbihaaDoor.T
/- Sub, the program's. -/
namespace Go.Proofs.YteikpeaakmbihaaDoor.T
open Go.RowKit Go.Shelf
attribute [local go_sem] Oper.semAt_some
theorem nextAt {W : World} {o x : Obj} {k : Nat} (h : W.heap[k]? = some x) : (W.alloc o).heap[k]? = some x := (Below.heap_alloc W o k (Array.getElem?_eq_some_iff.1 h).1).trans h
theorem newAt {W : World} {o : Obj} {n : Nat} (h : W.heap.size = n) : (W.alloc o).heap[n]? = some o := h ▸ World.alloc_heap_new W o
theorem allocs5 (w : World) (a0 a1 a2 a3 a4 : Obj) : ∀ W, ((((w.alloc a0).alloc a1).alloc a2).alloc a3).alloc a4 = W → W.heap[w.heap.size]? = some a0 ∧ W.heap[w.heap.size + 1]? = some a1 ∧ W.heap[w.heap.size + 1 + 1]? = some a2 ∧ W.heap[w.heap.size + 1 + 1 + 1]? = some a3 ∧ W.heap[w.heap.size + 1 + 1 + 1 + 1]? = some a4 := by
  rintro W rfl
  exact ⟨nextAt (nextAt (nextAt (nextAt (newAt rfl)))), nextAt (nextAt (nextAt (newAt (by simp)))), nextAt (nextAt (newAt (by simp))), nextAt (newAt (by simp)), newAt (by simp)⟩
set_option maxRecDepth 100000 in
set_option maxHeartbeats 8000000 in
theorem sub_in (n : Nat) (hn : 3 ≤ n) (l : List Nd) (L c b o : Nat) (HL : Hid (l.length = L)) (hL : L ≤ 600) (hm : may l = 0) (w : World) (hK : Kws w.heap.size w) (hb : b < w.heap.size) (HN : Hid (NdsAt w.heap.size w b o l)) (HS : Hid (∀ x ∈ l, Small x)) (HC : Hid (∀ x ∈ l, Clonable x)) (i : Nat) (hi : i < L) (hc : L ≤ c ∧ c ≤ 9223372036854775807) :
    CallsIn Fence.wide n Tryd.prog 20 #[.agg #[.slice (some ⟨b, o, none⟩) L c], .int .i64 (i : Int)] w (SubPost 0 (cp l i []) w) := by
  have h1 : 1 ≤ n := by omega
  have hw2 : Below w.heap.size w ((w.alloc (.cells #[.slice (some ⟨b, o, none⟩) L c] 24)).alloc (.cells #[.slice none 0 0] 24)) := ((Below.refl _ w).alloc (Nat.le_refl _) _).alloc (by simp) _
  have HM : Hid (Calls Tryd.prog 13 #[.agg #[.slice (some ⟨b, o, none⟩) L c]] ((w.alloc (.cells #[.slice (some ⟨b, o, none⟩) L c] 24)).alloc (.cells #[.slice none 0 0] 24)) fun e w' => e = .returned (.int .i64 0) ∧ Below (w.heap.size + 2) ((w.alloc (.cells #[.slice (some ⟨b, o, none⟩) L c] 24)).alloc (.cells #[.slice none 0 0] 24)) w') := Lib.hid (by
    have hfm := (may_zero hm).1
    have hs2 : ((w.alloc (.cells #[.slice (some ⟨b, o, none⟩) L c] 24)).alloc (.cells #[.slice none 0 0] 24)).heap.size = w.heap.size + 2 := by simp
    have := depth_any l L c b o HL (by rw [← HL.out]; omega) hL _ (Kws_mono (hK.on hw2) hw2.size) (by rw [hs2]; omega) (Lib.hid ((HN.out.below hw2 hb).mono hw2.size)) HS
    have h := may_any l (.slice (some ⟨b, o, none⟩) L c) _ (Kws_mono (hK.on hw2) hw2.size) ⟨some ⟨b, o, none⟩, c, by rw [HL.out], by rw [HL.out]; exact hc, fun h => (by cases h), fun _ => ⟨b, o, rfl, by rw [hs2]; omega, (HN.out.below hw2 hb).mono hw2.size⟩⟩ HS.out
    rw [hm, hs2] at h
    exact h)
  have hmk := make_arr L (by omega)
  have hd1 : decide (L ≤ i) = false := by simpa using hi
  have hd2 : ¬ L ≤ i := by omega
  have hd3 : decide ((i : Int) < 0) = false := by simp
  have hcE := (cell_under1 (w.alloc (.cells #[.slice (some ⟨b, o, none⟩) L c] 24)) (.cells #[.slice none 0 0] 24) w.heap.size 0 (by simp)).trans (new_cellsT' w 24 [.slice (some ⟨b, o, none⟩) L c] 0 _ rfl)
  refine callsIn_of_wp_marks Tryd.func20 rfl trivial ?_ rfl
  simp only [Tryd.ntmps20, List.size_toArray, List.length_cons, List.length_nil, Nat.reduceAdd, Nat.reduceSub, Array.replicate_succ, Array.replicate_zero, List.push_toArray, List.append_toArray, List.nil_append, List.cons_append]
  gi_wp2_with (first
    | (refine ⟨trivial, ?_⟩; gi_at_call 13; refine (callsIn_wide.2 HM.out).mono ?_; rintro e w1 ⟨rfl, hb1⟩; have c1 := (hb1.cell (p := ⟨w.heap.size, 0, none⟩) (by simp)).trans hcE; have hs1 := hb1.size; rw [World.size_alloc, World.size_alloc] at hs1; have hq1 : w.heap.size < w1.heap.size := (by omega); have hq2 : w.heap.size < w1.heap.size + 1 := (by omega); have hq3 : w.heap.size < w1.heap.size + 1 + 1 := (by omega); have hq4 : w.heap.size < w1.heap.size + 1 + 1 + 1 := (by omega); have HB1 := Lib.hid hb1; clear hb1)
    | (refine ⟨trivial, ?_⟩; gi_at_call 46; refine (below_in (n - 1) _ _ _ _ rfl _ _).mono ?_; rintro e w3 ⟨rfl, rfl⟩))
  obtain ⟨W0, hW0⟩ : ∃ W0, ((((w1.alloc (.cells #[.slice none 0 0] 24)).alloc (.cells (Array.replicate L (Value.int .i64 0)) 3)).alloc (.cells #[.slice (some ⟨w1.heap.size + 1, 0, none⟩) L L] 34)).alloc (.cells #[.slice (some ⟨b, o, none⟩) L c] 24)).alloc (.cells #[.int .i64 (i : Int)] 3) = W0 := ⟨_, rfl⟩
  rw [hW0]
  have hsz : W0.heap.size = w1.heap.size + 5 := by rw [← hW0]; simp
  have hblk : ∀ j, j < w1.heap.size → W0.heap[j]? = w1.heap[j]? := fun j hj => by rw [← hW0]; exact ((((((Below.refl w1.heap.size w1).alloc (Nat.le_refl _) _).alloc (by simp) _).alloc (by simp; omega) _).alloc (by simp; omega) _).alloc (by simp; omega) _).block j hj
  obtain ⟨g0, g1', g2, g3, g4⟩ := allocs5 w1 _ _ _ _ _ W0 hW0
  have g1 : W0.heap[w1.heap.size + 1]? = some (.cells ((List.replicate L (0 : Int)).map (Value.int .i64)).toArray 3) := by rw [g1']; simp
  have hs2 : ((w.alloc (.cells #[.slice (some ⟨b, o, none⟩) L c] 24)).alloc (.cells #[.slice none 0 0] 24)).heap.size = w.heap.size + 2 := by simp
  have hb01 : Below w.heap.size w w1 := hw2.trans (HB1.out.mono (by omega))
  have hBW : Below w.heap.size w W0 := by
    rw [← hW0]
    exact ((((hb01.alloc hb01.size _).alloc (by simp; omega) _).alloc (by simp; omega) _).alloc (by simp; omega) _).alloc (by simp; omega) _
  have g5 : W0.heap[w.heap.size]? = some (.cells #[.slice (some ⟨b, o, none⟩) L c] 24) := (hblk _ (by omega)).trans ((HB1.out.block _ (by omega)).trans (nextAt (newAt rfl)))
  have g6 : W0.heap[w.heap.size + 1]? = some (.cells #[.slice none 0 0] 24) := (hblk _ (by omega)).trans ((HB1.out.block _ (by omega)).trans (newAt (by simp)))
  have hfm := (may_zero hm).2.1
  have HKO : Hid (kidsOk l) := Lib.hid hfm.2.1
  have HND : Hid ((allKids l).Nodup) := Lib.hid hfm.2.2.1.1
  clear hW0 hblk g1' hb01 hs2
  refine wpIn_rangeFunc_ownH (α := Fin L) rfl h1 (gf := 70) (lb := #[.pointer (some ⟨w1.heap.size + 1 + 1 + 1, 0, none⟩), .pointer (some ⟨w1.heap.size + 1 + 1 + 1 + 1, 0, none⟩)]) rfl trivial (enters_of Tryd.func70 (by kernel_rfl) rfl)
    (below_stops l L c b o HL (by omega) HKO (Lib.hid fun x hx => (HS.out x hx).2.2.1) w.heap.size w1.heap.size (w1.heap.size + 1) hb i hi (n - 1) W0 (HN.out.below hBW hb) hBW.size (by omega) (by omega) (w1.heap.size + 1 + 1 + 1) (w1.heap.size + 1 + 1 + 1 + 1) (by omega) (by omega) (Blk_cell g3 0) (Blk_cell g4 0))
    Kq.trans (kq_b hBW.size) (Below.refl _ _) (fun _ => rfl)
    (SI l L c b o w w1.heap.size) (fun _ _ _ => False) (si_own l L c b o w w1.heap.size _ hBW.size) (fun _ _ _ _ _ hs _ _ => hs)
    ⟨⟨⟨.slice none 0 0, [], g0, ownN_nil _ _, rfl⟩, g1, g2, g5, g6, by omega⟩, hBW⟩
    (fun x a' W => a' = { tmps := #[.agg #[.slice (some ⟨b, o, none⟩) L c], .int .i64 (i : Int), .pointer (some ⟨w.heap.size, 0, none⟩), undef, .pointer (some ⟨w.heap.size + 1, 0, none⟩), .int .i64 0, .int .i64 0, .pointer (some ⟨w1.heap.size, 0, none⟩), .pointer (some ⟨w1.heap.size + 1 + 1, 0, none⟩), .int .i64 ((x.1 : Nat) : Int), undef, undef, undef, .agg #[.slice (some ⟨b, o, none⟩) L c], .int .i64 0, .int .i64 0, .bool false, undef, undef, .int .i64 (i : Int), .bool false, .bool false, .int .i64 (i : Int), .pointer (some ⟨w.heap.size, 0, none⟩), .slice (some ⟨b, o, none⟩) L c, .int .i64 (L : Int), .bool false, .bool false, undef, .pointer (some ⟨w.heap.size, 0, none⟩), .slice (some ⟨b, o, none⟩) L c, .int .i64 (L : Int), .slice (some ⟨w1.heap.size + 1, 0, none⟩) L L, .agg #[.slice (some ⟨b, o, none⟩) L c], .int .i64 (i : Int), .func (.func 70) #[] #[.pointer (some ⟨w1.heap.size + 1 + 1 + 1, 0, none⟩), .pointer (some ⟨w1.heap.size + 1 + 1 + 1 + 1, 0, none⟩)], .int .i64 ((x.1 : Nat) : Int), undef, undef, undef, undef, undef, undef, undef, undef, undef, undef, undef, undef, undef, undef, undef, undef, undef, undef, undef, undef, undef, undef, undef, undef, undef, undef, undef, undef, undef, undef, undef, undef, undef, undef, undef, undef, undef, undef, undef, undef], defers := [] })
    (fun x a' _ X Y row hs hg hr => hs)
    ?assign ?body ?done ?stop
  case assign =>
    rintro lr pre x W K hI hK
    simp only [encP]
    gi_wp2
    exact hK _ _ (KeepsFrom.refl _ _) (Kq.refl _ _ _ _) hI rfl
  case body =>
    clear hm hK hw2 HM hmk hd1 hd2 hd3 hcE c1 hq1 hq2 hq3 hq4 HB1 g0 g1 g2 g3 g4 g5 g6 hBW hfm hsz
    rintro lr pre ⟨p, hp⟩ a' W hl ⟨r, hr⟩ ⟨⟨⟨v, ps, s0, hown, hps⟩, s1, s2, s3, s4, s5⟩, hB⟩ rfl hlt
    obtain ⟨y, hy⟩ : ∃ y, l[p]? = some y := ⟨_, List.getElem?_eq_getElem (by rw [HL.out]; exact hp)⟩
    obtain ⟨NW, hNW⟩ : ∃ NW, (made l L pre).2 = NW := ⟨_, rfl⟩
    have hnl : NW.length = L := by rw [← hNW]; have := (stp_len l (pre.map Fin.val) ([], List.replicate L 0)).2; simpa [made] using this
    have hpl : ps.length ≤ 100000 := by
      have h1 := (stp_len l (pre.map Fin.val) ([], List.replicate L 0)).1
      have h2 := congrArg List.length hps
      have h3 := fin_len L (post l i)
      have h4 := post_len HKO.out HND.out (i := i) (by rw [HL.out]; exact hi)
      simp only [List.length_map, List.length_nil, made] at h1 h2
      rw [HL.out] at h4
      omega
    rw [hNW] at s1
    have HNW := Lib.hid hNW
    have HY := Lib.hid hy
    have ha := HKO.out p y hy
    have HHP := Lib.hid hps
    have HOWN := Lib.hid hown
    have HBI := Lib.hid hB
    have HS0 := Lib.hid s0
    have HS1 := Lib.hid s1
    have HS2 := Lib.hid s2
    have HS3 := Lib.hid s3
    have HS4 := Lib.hid s4
    obtain ⟨vA, vc, rfl⟩ : ∃ A c, v = .slice A ps.length c := by
      rcases hown.1.2 with ⟨rfl, h0⟩ | ⟨g, cap, cur, rfl, _⟩
      · exact ⟨none, 0, by rw [h0]⟩
      · exact ⟨_, _, rfl⟩
    have hwW : w.heap.size + 1 < W.heap.size := (Array.getElem?_eq_some_iff.1 s4).1
    have hbW : b < W.heap.size := by omega
    obtain ⟨fv, hfl, m0, m1, m2, m3, m4, m5, m6, m7, m8⟩ := (HN.out.below hB hb) p y hy
    have HFL : Hid (Flds W.heap.size W fv y.l) := Lib.hid (hfl.mono (by omega))
    obtain ⟨FA, fc, rfl, _⟩ := hfl
    have HKD := Lib.hid (pkids_any y (.slice FA y.l.length fc) W (Nat.le_refl _) HFL.out (HS.out y (List.mem_of_getElem? hy)).2.2.1)
    have hkl : (kids y).length ≤ 1000003 := by have := kids_len y; have := (HS.out y (List.mem_of_getElem? hy)).2.2.1; omega
    obtain ⟨K, hK⟩ : ∃ K, kids y = K := ⟨_, rfl⟩
    rw [hK] at HKD hkl
    have HAH : Hid (∀ m ∈ K, 0 ≤ m ∧ m < (p : Int)) := Lib.hid (by rw [← hK]; exact ha)
    have HKX := Lib.hid hK
    have e0 : W.cell? ⟨w.heap.size, 0, none⟩ = some (.slice (some ⟨b, o, none⟩) L c) := (Blk_cell s3 0).trans rfl
    have h1n : 1 ≤ n - 1 - 1 := by omega
    have HM7 := Lib.hid m7
    clear hy ha hK hps hown s0 s1 s2 s3 s4 hNW hB
    gi_wp2_with (refine ⟨trivial, ?_⟩; gi_at_call 16; refine (CallsIn.inRound lr (callsIn_wide.2 HKD.out)).mono ?_; rintro e w5 ⟨gk, ck, rfl, hi5, hb5⟩; have HI5 := Lib.hid hi5; have HB5 := Lib.hid hb5; clear hi5 hb5)
    have hgk := (HI5.out.lt gk rfl)
    clear m0 m1 m2 m3 m4 m5 m6 m7 m8 e0
    have hmx : Tryd.prog.follows .mixedOrders = true := by kernel_rfl
    have HK5 := Lib.hid (KRow.of HI5.out)
    gi_loopw [45] (fun v wr => ∃ j : Nat, v = .int .i64 (j : Int) ∧ j ≤ K.length ∧ Hid (KRow wr gk (mix (fun k => NW.getD k.toNat 0) K j)) ∧ Hid (∀ q, q ≠ gk → wr.heap[q]? = w5.heap[q]?) ∧ Hid (Below W.heap.size W wr)) (fun v _ => K.length - (intOf v).toNat)
    case atStart => exact ⟨0, rfl, Nat.zero_le _, Lib.hid (by have := HK5.out; simpa [mix] using this), Lib.hid (fun q _ => rfl), HB5⟩
    case round =>
      obtain ⟨j, rfl, hj, HR, HOT, HBR⟩ := hrel
      have hsz1 : w1.heap.size + 5 ≤ W.heap.size := s5
      have HS2' := Lib.hid ((HBR.out.block (w1.heap.size + 1 + 1) (by omega)).trans HS2.out)
      have HS1' := Lib.hid ((HBR.out.block (w1.heap.size + 1) (by omega)).trans HS1.out)
      have cw : wr.cell? ⟨w1.heap.size + 1 + 1, 0, none⟩ = some (.slice (some ⟨w1.heap.size + 1, 0, none⟩) L L) := (Blk_cell HS2'.out 0).trans rfl
      by_cases hjl : j < K.length
      · obtain ⟨k, hk⟩ : ∃ k, K[j]? = some k := ⟨_, List.getElem?_eq_getElem hjl⟩
        have hck := HR.out.row j k (mix_at hk)
        have hfk := HR.out.frozen j
        obtain ⟨h0, h1⟩ := HAH.out k (List.mem_of_getElem? hk)
        have HKK := Lib.hid hk
        clear hk
        obtain ⟨q, rfl⟩ := Int.eq_ofNat_of_zero_le h0
        have hqL : q < L := by omega
        obtain ⟨z, hz⟩ : ∃ z, NW[q]? = some z := ⟨_, List.getElem?_eq_getElem (by omega)⟩
        have hcz := row0_of HS1'.out q z hz
        have HZ := Lib.hid hz
        clear hz
        gi_wp2
        go_roundw
        case rel =>
          refine ⟨j + 1, by go_num, by omega, Lib.hid ?_, Lib.hid (fun q' hq' => (set_far _ _ _ _ _ hq').trans (HOT.out q' hq')), Lib.hid (HBR.out.setCell (p := ⟨gk, j, none⟩) hgk.1 _)⟩
          have h := HR.out.set (j := j) (by rw [mix_len]; exact hjl) z
          rw [← mix_step HKK.out]
          have e : NW.getD (((q : Nat) : Int)).toNat 0 = z := by
            simp only [Int.toNat_natCast, List.getD_eq_getElem?_getD, HZ.out, Option.getD_some]
          rw [e]
          exact h
        case measure => simp [intOf]; omega
      · obtain rfl : j = K.length := by omega
        have hmix : mix (fun k => NW.getD k.toNat 0) K K.length = K.map fun k => NW.getD k.toNat 0 := by simp [mix]
        have HRF : Hid (KRow wr gk (K.map fun k => NW.getD k.toNat 0)) := Lib.hid (hmix ▸ HR.out)
        have HS0' := Lib.hid ((HBR.out.block w1.heap.size (by omega)).trans HS0.out)
        have hgw : gk < wr.heap.size := by obtain ⟨cur9, hcur9, _⟩ := HRF.out; exact (Array.getElem?_eq_some_iff.1 hcur9).1
        have cs0 : wr.cell? ⟨w1.heap.size, 0, none⟩ = some (.slice vA ps.length vc) := (Blk_cell HS0'.out 0).trans rfl
        obtain ⟨z, hz⟩ : ∃ z, NW[p]? = some z := ⟨_, List.getElem?_eq_getElem (by omega)⟩
        have hcz := row0_of HS1'.out p z hz
        have hfz := Blk_frozen HS1'.out p
        clear hz hmix
        gi_wp2
        obtain ⟨W6, hW6⟩ : ∃ W6, wr.setCell ⟨w1.heap.size + 1, p, none⟩ (.int .i64 (ps.length : Int)) = W6 := ⟨_, rfl⟩
        rw [hW6]
        have hW6s : W6.heap.size = wr.heap.size := by rw [← hW6]; simp
        have HN6 : Hid (W6.heap[w1.heap.size + 1]? = some (.cells ((NW.set p (ps.length : Int)).map (Value.int .i64)).toArray 3)) := Lib.hid (by rw [← hW6]; exact set_row HS1'.out)
        have HFAR : Hid (∀ q, q ≠ w1.heap.size + 1 → W6.heap[q]? = wr.heap[q]?) := Lib.hid (fun q hq => by rw [← hW6]; exact set_far _ _ _ _ _ hq)
        have HQ6 : Hid (Kq w.heap.size w1.heap.size (w1.heap.size + 1) W W6) := Lib.hid (by rw [← hW6]; exact (Kq.of_below HBR.out (by omega)).trans (kq_set _ _ _ _ _ _ _ (.inr rfl) (by omega)))
        have HO6 : Hid (KeepsOthers W W6) := Lib.hid (by rw [← hW6]; exact (KeepsOthers.of_grownBy (grown_belowK HBR.out none) (fun j o e => by cases e)).trans (KeepsOthers.setCell _ _ _))
        have HOW6 : Hid (OwnN (w1.heap.size + 5) W6 (.slice vA ps.length vc) ps) := Lib.hid (ownN_heap HOWN.out (fun g h1 h2 => (HFAR.out g (by omega)).trans (HBR.out.block g h2)))
        have hB6 := HBR.out.size
        have hcE6 : W6.cell? ⟨w.heap.size, 0, none⟩ = some (.slice (some ⟨b, o, none⟩) L c) := (Blk_cell ((HFAR.out _ (by omega)).trans ((HBR.out.block _ (by omega)).trans HS3.out)) 0).trans rfl
        have hcs6 : W6.cell? ⟨w1.heap.size, 0, none⟩ = some (.slice vA ps.length vc) := (Blk_cell ((HFAR.out _ (by omega)).trans HS0'.out) 0).trans rfl
        have hfs6 : W6.frozen? ⟨w1.heap.size, 0, none⟩ = false := Blk_frozen ((HFAR.out _ (by omega)).trans HS0'.out) 0
        obtain ⟨fv', hfl', m0, m1, m2, m3, m4, m5, m6, m7, m8⟩ := (HN.out.below (HBI.out.trans HQ6.out.1) hb) p y HY.out
        have HKR6 := Lib.hid (HRF.out.heap (HFAR.out gk (by omega)))
        have hfv : fv' = .slice FA y.l.length fc := by
          have hm7 : W6.cell? ⟨b, o + p * 9 + 7, none⟩ = W.cell? ⟨b, o + p * 9 + 7, none⟩ := HQ6.out.1.cell (p := ⟨b, o + p * 9 + 7, none⟩) hb
          rw [m7, HM7.out] at hm7
          injection hm7
        subst hfv
        have HWK : Hid (Calls Tryd.prog 47 #[.agg (ndArr y (.slice FA y.l.length fc)), .slice (some ⟨gk, 0, none⟩) K.length ck] W6.drew (WithPost (wk y (K.map fun k => NW.getD k.toNat 0)) W6.drew)) := Lib.hid (by
          have hd : W6.drew.heap = W6.heap := rfl
          have := with_any y (.slice FA y.l.length fc) (K.map fun k => NW.getD k.toNat 0) gk ck W6.drew (by
            have h1 := (hfl'.mono (show w.heap.size ≤ W6.heap.size by omega))
            exact h1.below (Below.refl W6.heap.size W6).drew) (by rw [List.length_map, HKX.out]) (Row0.drew HKR6.out.row) (by rw [hd]; omega) (by
            rw [List.length_map]
            rcases HI5.out.2 with ⟨h, _⟩ | ⟨g', cap', cur, h, _, _, hle, _⟩
            · cases h
            · cases h; exact hle) (HC.out y (List.mem_of_getElem? HY.out))
          rw [List.length_map] at this
          exact this)
        obtain ⟨Y, hYY⟩ : ∃ Y, wk y (K.map fun k => NW.getD k.toNat 0) = Y := ⟨_, rfl⟩
        rw [hYY] at HWK
        have HYY := Lib.hid hYY
        clear hYY hW6 hcz hfz cs0 cw
        unfold WithPost at HWK
        obtain ⟨k2, a2, b2, c2, n2, nm2, t2, l2, p2⟩ := Y
        unfold ndArr at HWK
        simp only at HWK
        have hq6 : w1.heap.size + 5 ≤ W6.heap.size := by omega
        have N2 := Lib.hid ((HFAR.out (w1.heap.size + 1 + 1) (by omega)).trans HS2'.out)
        have N3 := Lib.hid ((HFAR.out w.heap.size (by omega)).trans ((HBR.out.block w.heap.size (by omega)).trans HS3.out))
        have N4 := Lib.hid ((HFAR.out (w.heap.size + 1) (by omega)).trans ((HBR.out.block (w.heap.size + 1) (by omega)).trans HS4.out))
        have HS6 := Lib.hid ((HFAR.out w1.heap.size (by omega)).trans HS0'.out)
        have HEE : Hid (w.heap.size + 1 < w1.heap.size) := Lib.hid (by omega)
        clear hj hkl hlt hnl hwW hbW hW6s hB6 hgw hfl' hjl
        refine app17_any lr (n - 1 - 1) h1n hmx _ W6 w.heap.size w1.heap.size gk K.length ck b o L c p vA ps.length vc ps (Lib.hid rfl) hpl hp hq6 (by have := HEE.out; omega) hcE6 HS6 hcs6 HOW6 _ _ _ _ _ _ _ _ _ m0 m1 m2 m3 m4 m5 m6 m7 m8 k2 a2 b2 c2 n2 nm2 t2 l2 p2 (Lib.hid (CallsIn.inRound lr (callsIn_wide.2 HWK.out))) _ _ _ _ _ _ _ _ _ _ _ _ _ _ _ _ _ _ _ _ _ _ _ _ _ _ _ _ _ _ _ _ _ _ _ _ _ _ _ _ _ _ _ _ _ _ _ _ _ _ _ _ _ _ _ _ _ _ _ _ _ _ _ _ _ _ _ _ _ _ _ _ _ (Lib.hid ?_)
        intro _ _ _ _ _ _ _ _ _ _ _ _ A7 c7 w7 g8 c8 w8 q1 q2 q3 q4 q5
        exact end17 l L c b o w w1.heap.size _ pre p hp y _ NW W W6 w7 w8 vA ps.length vc ps g8 c8 _ _ rfl HEE.out HO6.out HQ6.out hq6 q1 q3 q4 q5 HOW6.out HN6.out N2.out N3.out N4.out HHP.out HNW.out HY.out (by rw [HKX.out]; exact HYY.out) HBI.out
  case done =>
    rintro D ys W hD rfl ⟨⟨⟨v, ps, s0, hown, hps⟩, s1, s2, s3, s4, s5⟩, hB⟩ hK
    obtain ⟨vA, vc, rfl⟩ : ∃ A c, v = .slice A ps.length c := by
      rcases hown.1.2 with ⟨rfl, h0⟩ | ⟨g, cap, cur, rfl, _⟩
      · exact ⟨none, 0, by rw [h0]⟩
      · exact ⟨_, _, rfl⟩
    have c1 := (Blk_cell s0 0).trans rfl
    have c2 := (Blk_cell s4 0).trans rfl
    have f2 := Blk_frozen s4 0
    clear HM hmk
    gi_wp2
    have hK' := (KeepsOthers.setCell W ⟨w.heap.size + 1, 0, none⟩ (.slice vA ps.length vc)).same D _ hK rfl
    refine ⟨by simp, .inl ⟨_, _, rfl, run_takeDeferred hK', ?_⟩⟩
    have hgr := grownBy_putObj' (W.setCell ⟨w.heap.size + 1, 0, none⟩ (.slice vA ps.length vc)) D (.deferred none)
    have hrr : ∀ r, some D = some r → ∃ o, (W.setCell ⟨w.heap.size + 1, 0, none⟩ (.slice vA ps.length vc)).heap[r]? = some o ∧ o.isCells = false := fun r e => by cases e; exact ⟨_, hK', rfl⟩
    have hx := blk_abide (blk_put (j := 0) (v := .slice vA ps.length vc) s4) hgr hrr
    have ho1 : OwnN (w1.heap.size + 5) (W.setCell ⟨w.heap.size + 1, 0, none⟩ (.slice vA ps.length vc)) (.slice vA ps.length vc) ps := ownN_heap hown (fun g hg _ => set_far _ _ _ _ _ (by omega))
    have hBB := (hB.setCell (p := ⟨w.heap.size + 1, 0, none⟩) (by show w.heap.size ≤ w.heap.size + 1; omega) (.slice vA ps.length vc)).grown hgr (by simpa using hB.size) (fun k e => by cases e; omega)
    refine ⟨.tuple #[.agg #[.slice vA ps.length vc], .int .i64 0], res17 _ _ (w.heap.size + 1) vA ps.length vc 0 rfl rfl ((Blk_cell hx 0).trans rfl), .slice vA ps.length vc, ps, rfl, ?_, ⟨row_mono (row_abide ho1.1 hgr hrr) (by omega), fun x hx => row_mono (row_abide (ho1.2 x hx) hgr hrr) (by omega)⟩, hBB⟩
    have hil : i < l.length := by rw [HL.out]; exact hi
    rw [hps, made, fin_val (fun m hm => by have := post_le HKO.out i hil m hm; omega)]
    exact (stp_post HKO.out HND.out i hil ([], List.replicate L 0) (by simp [HL.out])).1
  case stop =>
    rintro D c pre W hD _ h _
    exact h.elim
end Go.Proofs.YteikpeaakmbihaaDoor.T
