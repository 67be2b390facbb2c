/- Joined by program. -/
import Derived.OrdersIn
namespace Go.Proofs.YtjakeidbajkdcaaGreatDoor.T
section
variable {F : Fence} {n : Nat} {P : Program} {ops : Array Oper} {Q : Exit -> Act -> World -> Prop} {md : Region.Mode}
theorem upon_turn {o : Oper} {a a' : Act} {N N' : Act -> World -> Prop} (r : Result Next)
    (hv : ∀ u w, N (a.put o.dst u) w -> N' (a'.put o.dst u) w)
    (hd : ∀ d w, N ({ a with defers := d :: a.defers }.put o.dst undef) w -> N' ({ a' with defers := d :: a'.defers }.put o.dst undef) w)
    (hp : ∀ c w, Q (.panic c) a w -> Q (.panic c) a' w) (h : o.uponIn F n P a N Q r) : o.uponIn F n P a' N' Q r := by
  have he : ∀ (e : Ending) (w : World), (match e, w with
      | .returned v, w'' => N (a.put o.dst v) w''
      | .panicked chain, w'' => Q (.panic chain) a w''
      | .outgrown, _ => LetsOut Q) -> (match e, w with
      | .returned v, w'' => N' (a'.put o.dst v) w''
      | .panicked chain, w'' => Q (.panic chain) a' w''
      | .outgrown, _ => LetsOut Q) := fun e w h => match e, h with
    | .returned v, h => hv v w h
    | .panicked c, h => hp c w h
    | .outgrown, h => h
  match r, h with
  | .ok (.value v) w, h => exact hv v w h
  | .ok .skip w, h => exact hv undef w h
  | .ok (.defer d) w, h => exact hd d w h
  | .ok (.enter f args) w, h => exact ⟨h.1, h.2.mono he⟩
  | .ok (.row row args) w, h => exact ⟨h.1, h.2.mono fun u w'' => hv u w''⟩
  | .ok (.round l f tmps assign body) w, h => exact ⟨h.1, h.2.mono he⟩
  | .halt (.panic v) w, h => exact hp _ w h
theorem yields_now {i : Nat} {o : Oper} {v : Value} {a : Act} {w : World} {K : Act -> World -> Prop} (hnd : ∀ c, o.op ≠ .defer c) (hi : ops[i]? = some o) (hy : YieldsFenced P ops o v a) (h : K (a.put o.dst v) w) : wpOpIn F n P ops Q i K a w := by
  have hab : ∀ f, o.about P w a.eval = some f -> F.fn f := fun f hf => absurd hf (by rw [hy.2 w]; simp)
  unfold wpOpIn
  simp only [hi]
  obtain ⟨hw, hv⟩ | ⟨hw, hu⟩ := hy.1
  · rw [if_pos hw]
    refine ⟨hab, ?_⟩
    rw [Oper.semAt_eq _ _ _ hnd, hv w]
    exact h
  · rw [if_neg (by rw [hw]; simp)]
    exact ⟨hab, hu ▸ h⟩
theorem yield_behind {j : Nat} {x y : Oper} {v : Value} {a : Act} {w : World} {K : Act -> World -> Prop} (hnd : ∀ c, y.op ≠ .defer c) (hj : ops[j]? = some y) (hap : x.apart ops y = true)
    (hsx : ∀ cs b, x.op ≠ .select cs b) (hsy : ∀ cs b, y.op ≠ .select cs b) (hQ : ∀ c a w, Q (.panic c) (a.put x.dst v) w -> Q (.panic c) a w)
    (hy : YieldsFenced P ops x v a) (h : wpOpIn F n P ops Q j K (a.put x.dst v) w) :
    wpOpIn F n P ops Q j (fun b u => YieldsFenced P ops x v b /\ K (b.put x.dst v) u) a w := by
  obtain ⟨p1, p2, p3⟩ := Oper.apart_spec hap
  have still : ∀ (b : Act), YieldsFenced P ops x v b -> ∀ u, YieldsFenced P ops x v (b.put y.dst u) := fun b hb u =>
    hb.of_same (execOp_put x hsx b y.dst u p3) (wanted_put x b y.dst u p3) (fun w => about_put x w b y.dst u p3)
  unfold wpOpIn at h ⊢
  simp only [hj] at h ⊢
  rw [wanted_put y a x.dst v p1] at h
  by_cases hw : Region.wanted y (yielded ops a.tmps) = true
  · rw [if_pos hw] at h ⊢
    unfold Oper.wpIn at h ⊢
    rw [about_put y w a x.dst v p1, Oper.semAt_eq _ _ _ hnd, execOp_put y hsy a x.dst v p1] at h
    rw [Oper.semAt_eq _ _ _ hnd]
    refine ⟨h.1, upon_turn _ (fun u w' hk => ⟨still a hy u, ?_⟩) (fun d w' hk => ⟨still { a with defers := d :: a.defers } (hy.of_same rfl rfl (fun _ => rfl)) undef, ?_⟩) (fun c w' hk => hQ c a w' hk) h.2⟩
    · rw [<- Act.put_comm a v u p2]; exact hk
    · rw [<- Act.put_comm _ v undef p2, <- Act.put_defers]; exact hk
  · rw [if_neg hw] at h ⊢
    rw [about_put y w a x.dst v p1] at h
    exact ⟨h.1, still a hy undef, by rw [<- Act.put_comm a v undef p2]; exact h.2⟩
theorem first_any {i : Nat} {x : Oper} {v : Value} (hnd : ∀ (j : Nat) (o : Oper) c, ops[j]? = some o -> o.op ≠ .defer c) (hi : ops[i]? = some x) (hsel : ∀ (j : Nat) (o : Oper) cs b, ops[j]? = some o -> o.op ≠ .select cs b)
    (hQ : ∀ c a w, Q (.panic c) (a.put x.dst v) w -> Q (.panic c) a w) (fuel : Nat) : ∀ (listed : Array Bool) (a : Act) (w : World),
      (∀ j y, ops[j]? = some y -> j ≠ i -> listed.getD j true = false -> (∀ e ∈ y.after, Region.binds md e = true -> e.on ≠ i) -> x.apart ops y = true) ->
      i ∈ Region.ready md ops listed -> YieldsFenced P ops x v a ->
      wpAnyIn F n P md ops Q fuel (listed.setIfInBounds i true) (a.put x.dst v) w -> wpAnyIn F n P md ops Q (fuel + 1) listed a w := by
  induction fuel with
  | zero =>
    intro listed a w _ hr hy H
    refine ⟨fun h => absurd hr (by rw [h]; simp), fun j hj => ?_⟩
    by_cases e : j = i
    · rw [e]; exact yields_now (fun c => hnd i x c hi) hi hy H
    · exact absurd (ready_mono hj e) (by rw [H.1]; simp)
  | succ fuel ih =>
    intro listed a w hfr hr hy H
    refine ⟨fun h => absurd hr (by rw [h]; simp), fun j hj => ?_⟩
    by_cases e : j = i
    · rw [e]; exact yields_now (fun c => hnd i x c hi) hi hy H
    obtain ⟨hun, y, hjy, hall⟩ := mem_ready.1 hj
    have hno : ∀ e' ∈ y.after, Region.binds md e' = true -> e'.on ≠ i := fun e' he hb heq => by
      have q1 := hall e' he hb
      have q0 := (mem_ready.1 hr).1
      rw [heq, Array.getD_eq_getD_getElem?] at q1
      rw [Array.getD_eq_getD_getElem?] at q0
      cases hl : listed[i]? with
      | none => rw [hl] at q0; simp at q0
      | some t => rw [hl] at q0 q1; simp at q0 q1; rw [q0] at q1; cases q1
    have step := yield_behind (fun c => hnd j y c hjy) hjy (hfr j y hjy e hun hno) (fun cs b => hsel i x cs b hi) (fun cs b => hsel j y cs b hjy) hQ hy (H.2 j (ready_mono hj e))
    refine wpOpIn_mono (fun b u hb => ih (listed.setIfInBounds j true) b u (fun k z hk hki huk hnk => hfr k z hk hki ?_ hnk) (ready_mono hr (Ne.symm e)) hb.1 ?_) step
    · by_cases jk : j = k
      · rw [<- jk]; exact hun
      · rw [<- getD_set_ne true jk]; exact huk
    · rw [Array.setIfInBounds_comm _ _ e]; exact hb.2
def noDefer (ops : Array Oper) : Bool := ops.toList.all fun o => match o.op with | .defer _ => false | _ => true
theorem noDefer_spec (h : noDefer ops = true) (j : Nat) (o : Oper) (c : Call) (ho : ops[j]? = some o) : o.op ≠ .defer c := by
  intro he
  have hm : o ∈ ops.toList := by
    rw [<- Array.getElem?_toList] at ho
    exact List.mem_of_getElem? ho
  have := List.all_eq_true.1 h o hm
  simp [he] at this
theorem take_any {i : Nat} {x : Oper} {v : Value} {fuel : Nat} {listed : Array Bool} {a : Act} {w : World} (hd : noDefer ops = true) (hi : ops[i]? = some x)
    (hs : Region.noSelect ops = true) (hf : Region.free md ops listed i = true) (hr : (Region.ready md ops listed).contains i = true)
    (hQ : ∀ c a w, Q (.panic c) (a.put x.dst v) w -> Q (.panic c) a w) (hy : YieldsFenced P ops x v a)
    (h : wpAnyIn F n P md ops Q fuel (listed.setIfInBounds i true) (a.put x.dst v) w) : wpAnyIn F n P md ops Q (fuel + 1) listed a w :=
  first_any (noDefer_spec hd) hi (Region.noSelect_spec hs) hQ fuel listed a w (Region.free_spec hi hf) (by simpa using hr) hy h
end
end Go.Proofs.YtjakeidbajkdcaaGreatDoor.T
