/- Joined by program. -/
import Derived.Test.YtjakeidbajkdcaaGreatDoorH48
import Derived.Test.YtjakeidbajkdcaaGreatDoorH38
import Derived.Test.YtjakeidbajkdcaaGreatDoorH07
import Derived.Test.YtjakeidbajkdcaaGreatDoorH46
import Derived.Test.YtjakeidbajkdcaaGreatDoorH15
import Derived.Test.YtjakeidbajkdcaaGreatDoorH18
import Derived.Test.YtjakeidbajkdcaaGreatDoorH16
import Derived.Test.YtjakeidbajkdcaaGreatDoorH30
set_option maxRecDepth 100000
set_option maxHeartbeats 16000000
namespace Go.Proofs.YtjakeidbajkdcaaGreatDoor.Y
open T S
section
variable {E M : Int} {l : List Nd} {i : Nat} {x : Nd} {usa usb : List U} {ya yb : Nd}
theorem is_op {n : Int} (h1 : 1 <= n) (h7 : n <= 7) (b : List UInt8) : IsTok (sgn n).data.toList (32 :: b) (7, sgn n, 0) := by
  rcases (by omega : n = 1 ∨ n = 2 ∨ n = 3 ∨ n = 4 ∨ n = 5 ∨ n = 6 ∨ n = 7) with rfl | rfl | rfl | rfl | rfl | rfl | rfl
  · exact is_one 43 _ (by decide)
  · exact is_dash 45 _ (by decide)
  · exact is_one 42 _ (by decide)
  · exact is_one 47 _ (by decide)
  · exact is_one 60 _ (by decide)
  · exact is_same _
  · exact is_one 94 _ (by decide)
def pU (x ya yb : Nd) (usa usb : List U) : List U := cu ya (fst1 x.n) usa ++ ((7, sgn x.n, 0) :: cu yb (S.tight 10 x.n + 1) usb)
theorem prim_lx (C : Cx M l i x) (h1 : x.kind = 10) (A : Ch E M l (dpt l i) x.a usa ya) (B : Ch E M l (dpt l i) x.b usb yb) : LxS (tx l i) (pU x ya yb usa usb) := by
  rw [C.tx, body_10 h1]
  intro b vs hb hv
  rw [app2, app2, app2, app2]
  unfold pU
  rw [List.append_assoc]
  have hp := C.R.p h1
  exact A.t _ _ _ (ends_32 _) (lx_blank (lx_tok (w := (sgn x.n).data.toList) (is_op hp.1 hp.2 _) (lx_blank (B.t _ b vs hb hv))))
theorem prim_len (C : Cx M l i x) (h1 : x.kind = 10) (A : Ch E M l (dpt l i) x.a usa ya) (B : Ch E M l (dpt l i) x.b usb yb) : (pU x ya yb usa usb).length + 6 <= 12 * (post l i).length := by
  have e1 := A.ln
  have e2 := cu_len ya (fst1 x.n) usa
  have e3 := B.ln
  have e4 := cu_len yb (S.tight 10 x.n + 1) usb
  rw [len2 C (kid2 (.inr (.inr (.inr h1))))]
  unfold pU
  simp only [List.length_cons, List.length_append]
  omega
theorem prim_shp (C : Cx M l i x) (h1 : x.kind = 10) (p : Int) : shp { mk 10 p with n := x.n } x :=
  ⟨h1.symm, rfl, (C.R.no (by omega) (by omega)).symm, (C.R.s (by omega)).symm, by rw [C.R.l (by omega) (by omega)]; rfl⟩
theorem n_cmp (C : Cx M l i x) (h1 : x.kind = 10) (A : Ch E M l (dpt l i) x.a usa ya) (B : Ch E M l (dpt l i) x.b usb yb) (hf : fst1 x.n = 2) (ht : S.tight 10 x.n = 1) (ho : opK cmpOps 7 (sgn x.n).data.toList = some x.n) (hs : fsK 7 (sgn x.n).data.toList = true) : NG E M l i x := by
  refine ⟨_, prim_lx C h1 A B, ?_, prim_len C h1 A B⟩
  unfold pU
  rw [h1, hf, ht]
  refine nk1 (hd_app (hd_bru A.nk (by decide))) fun d hd ts rest hts hfe => ?_
  obtain ⟨ta, t2, rfl, h2, h3⟩ := hts.app
  obtain ⟨q, tb, rfl, hq, h4⟩ := h3.cons
  have hss := fs_of (t := ⟨7, sgn x.n, 0, q⟩) (l := tb ++ rest) hs
  obtain ⟨t, k1, k2⟩ := A.f2 hd ta (⟨7, sgn x.n, 0, q⟩ :: (tb ++ rest)) h2 hss.1
  obtain ⟨u, k3, k4⟩ := B.f2 hd tb rest h4 hfe.1.1
  refine ⟨_, node_lk C.hk C.hx (prim_shp C h1 q) hq (by rw [kid2 (.inr (.inr (.inr h1)))]; exact lks2 k1 k3), ?_⟩
  rw [List.append_assoc]
  exact ev_cmp1 (k2 _ (ev_sum0 hss.2)) (op_k.trans ho) (k4 _ (ev_sum0 hfe.1.2))
theorem n_mul (C : Cx M l i x) (h1 : x.kind = 10) (A : Ch E M l (dpt l i) x.a usa ya) (B : Ch E M l (dpt l i) x.b usb yb) (hf : fst1 x.n = 3) (ht : S.tight 10 x.n = 3) (ho : opK prodOps 7 (sgn x.n).data.toList = some x.n) (hs : fbK 7 (sgn x.n).data.toList = true) : NG E M l i x := by
  refine ⟨_, prim_lx C h1 A B, ?_, prim_len C h1 A B⟩
  unfold pU
  rw [h1, hf, ht]
  refine nk3 (hd_app (hd_bru A.nk (by decide))) fun d hd ts rest hts hfe => ?_
  obtain ⟨ta, t2, rfl, h2, h3⟩ := hts.app
  obtain ⟨q, tb, rfl, hq, h4⟩ := h3.cons
  obtain ⟨t, k1, k2⟩ := A.d3 hd ta (⟨7, sgn x.n, 0, q⟩ :: (tb ++ rest)) h2 (fb_of hs)
  obtain ⟨u, k3, k4⟩ := B.c4 hd tb rest h4 hfe
  refine ⟨_, node_lk C.hk C.hx (prim_shp C h1 q) hq (by rw [kid2 (.inr (.inr (.inr h1)))]; exact lks2 k1 k3), fun r hr => ?_⟩
  rw [List.append_assoc]
  exact k2 r (ev_prod1 (op_k.trans ho) k4 hr)
theorem n_add (C : Cx M l i x) (h1 : x.kind = 10) (A : Ch E M l (dpt l i) x.a usa ya) (B : Ch E M l (dpt l i) x.b usb yb) (hf : fst1 x.n = 2) (ht : S.tight 10 x.n = 2) (ho : opK sumOps 7 (sgn x.n).data.toList = some x.n) (hs : fpK 7 (sgn x.n).data.toList = true) : NG E M l i x := by
  refine ⟨_, prim_lx C h1 A B, ?_, prim_len C h1 A B⟩
  unfold pU
  rw [h1, hf, ht]
  refine nk2 (hd_app (hd_bru A.nk (by decide))) fun d hd ts rest hts hfe => ?_
  obtain ⟨ta, t2, rfl, h2, h3⟩ := hts.app
  obtain ⟨q, tb, rfl, hq, h4⟩ := h3.cons
  obtain ⟨t, k1, k2⟩ := A.f2 hd ta (⟨7, sgn x.n, 0, q⟩ :: (tb ++ rest)) h2 (fp_of hs)
  obtain ⟨u, k3, k4⟩ := B.d3 hd tb rest h4 hfe.1
  refine ⟨_, node_lk C.hk C.hx (prim_shp C h1 q) hq (by rw [kid2 (.inr (.inr (.inr h1)))]; exact lks2 k1 k3), fun r hr => ?_⟩
  rw [List.append_assoc]
  exact k2 r (ev_sum1 (op_k.trans ho) (k4 _ (ev_prod0 hfe.2)) hr)
theorem n_prim (C : Cx M l i x) (h1 : x.kind = 10) (A : Ch E M l (dpt l i) x.a usa ya) (B : Ch E M l (dpt l i) x.b usb yb) : NG E M l i x := by
  have hp := C.R.p h1
  rcases (by omega : x.n = 1 ∨ x.n = 2 ∨ x.n = 3 ∨ x.n = 4 ∨ x.n = 5 ∨ x.n = 6 ∨ x.n = 7) with h | h | h | h | h | h | h
  · exact n_add C h1 A B (by rw [h]; rfl) (by rw [h]; rfl) (by rw [h]; rfl) (by rw [h]; rfl)
  · exact n_add C h1 A B (by rw [h]; rfl) (by rw [h]; rfl) (by rw [h]; rfl) (by rw [h]; rfl)
  · exact n_mul C h1 A B (by rw [h]; rfl) (by rw [h]; rfl) (by rw [h]; rfl) (by rw [h]; rfl)
  · exact n_mul C h1 A B (by rw [h]; rfl) (by rw [h]; rfl) (by rw [h]; rfl) (by rw [h]; rfl)
  · exact n_cmp C h1 A B (by rw [h]; rfl) (by rw [h]; rfl) (by rw [h]; rfl) (by rw [h]; rfl)
  · exact n_cmp C h1 A B (by rw [h]; rfl) (by rw [h]; rfl) (by rw [h]; rfl) (by rw [h]; rfl)
  · exact n_add C h1 A B (by rw [h]; rfl) (by rw [h]; rfl) (by rw [h]; rfl) (by rw [h]; rfl)
end
theorem tw_nodup {ss : List ByteArray} (h : M.tw ss = false) : ss.Nodup := by
  have key : ∀ k, k <= ss.length -> (ss.take k).Nodup /\ Maps.size (M.SS (ss.take k)) = k := by
    intro k
    induction k with
    | zero => intro _; exact ⟨by simp, M.size_zero ss⟩
    | succ k ih =>
      intro hk
      obtain ⟨i1, i2⟩ := ih (by omega)
      have hin : M.inB (ss.getD k ⟨#[]⟩) (ss.take k) = false := by
        cases hc : M.inB (ss.getD k ⟨#[]⟩) (ss.take k) with
        | false => rfl
        | true => rw [M.tw_yes (by omega) i2 hc] at h; cases h
      have e := M.size_succ ss k (by omega)
      rw [hin] at e
      refine ⟨?_, by rw [e, i2]; rfl⟩
      have hg : ss.getD k ⟨#[]⟩ = ss[k]'(by omega) := by rw [List.getD_eq_getElem?_getD, List.getElem?_eq_getElem (by omega)]; rfl
      rw [List.take_succ_eq_append_getElem (by omega), List.nodup_append]
      refine ⟨i1, by simp, fun a ha b hb => ?_⟩
      obtain rfl := List.mem_singleton.1 hb
      rintro rfl
      have : M.inB (ss.getD k ⟨#[]⟩) (ss.take k) = true := by rw [hg]; exact M.inB_iff.2 ha
      rw [this] at hin
      cases hin
  have := (key ss.length (Nat.le_refl _)).1
  rwa [List.take_length] at this
theorem joinB_two (sep : List UInt8) (a b : ByteArray) (r : List ByteArray) : joinB sep (a :: b :: r) = (a ++ mkB sep) ++ joinB sep (b :: r) := by
  apply ext_l
  unfold joinB
  simp [Lib.join_cons, Lib.joinTail, ByteArray.data_append, mkB]
abbrev G3 := Fld × List U × Nd
theorem choose_fl {P : Fld -> List U -> Nd -> Prop} : ∀ fs : List Fld, (∀ f ∈ fs, ∃ us y, P f us y) -> ∃ gs : List G3, gs.map Prod.fst = fs /\ ∀ g ∈ gs, P g.1 g.2.1 g.2.2
  | [], _ => ⟨[], rfl, fun g hg => by cases hg⟩
  | f :: fs, h => by
    obtain ⟨gs, h1, h2⟩ := choose_fl fs fun g hg => h g (by simp [hg])
    obtain ⟨us, y, hp⟩ := h f (by simp)
    refine ⟨(f, us, y) :: gs, by rw [List.map_cons, h1], fun g hg => ?_⟩
    rcases List.mem_cons.1 hg with rfl | hg
    · exact hp
    · exact h2 g hg
def recU : List G3 -> List U
  | [] => []
  | g :: r => uN g.1.nm :: uS s_eqs :: (cu g.2.2 0 g.2.1 ++ match r with | [] => [] | _ :: _ => uS s_comma :: recU r)
def casU : List G3 -> List U
  | [] => []
  | g :: r => uT g.1.nm :: uN g.1.vr :: uS s_arrow :: (cu g.2.2 0 g.2.1 ++ match r with | [] => [] | _ :: _ => uS s_bar :: casU r)
section
variable {E M : Int} {l : List Nd} {i : Nat} {x : Nd} {usa : List U} {ya : Nd} {h : Nat}
theorem rec_lx : ∀ gs : List G3, gs ≠ [] -> (∀ g ∈ gs, Ch E M l h g.1.pl g.2.1 g.2.2 /\ Go.Proofs.YtjakeidbajkdcaaGreatDoor.M.nameB g.1.nm = true) -> LxS (joinB [44, 32] (gs.map fun g => partT (chOf l (tx l)) g.1)) (recU gs)
  | [], hn, _ => absurd rfl hn
  | [g], _, hg => by
    obtain ⟨A, hnm⟩ := hg g (by simp)
    intro b vs hb hv
    rw [List.map_cons, List.map_nil, joinB_one]
    unfold partT
    rw [app2, app2]
    simp only [recU, List.append_nil]
    exact lx_tok (w := g.1.nm.data.toList) (is_name hnm (ends_32 _)) (lx_blank (lx_tok (w := [61]) (is_dash 61 _ (.inr rfl)) (lx_blank (A.t 0 b vs hb hv))))
  | g :: g2 :: r, _, hg => by
    obtain ⟨A, hnm⟩ := hg g (by simp)
    have ih := rec_lx (g2 :: r) (by simp) fun g' h' => hg g' (by simp [List.mem_cons.1 h'])
    intro b vs hb hv
    rw [List.map_cons, List.map_cons, joinB_two, app2, app2]
    unfold partT at ih ⊢
    rw [app2, app2]
    have e : recU (g :: g2 :: r) ++ vs = uN g.1.nm :: uS s_eqs :: (cu g.2.2 0 g.2.1 ++ (uS s_comma :: (recU (g2 :: r) ++ vs))) := by rw [recU]; simp
    rw [e]
    exact lx_tok (w := g.1.nm.data.toList) (is_name hnm (ends_32 _)) (lx_blank (lx_tok (w := [61]) (is_dash 61 _ (.inr rfl)) (lx_blank (A.t 0 _ _ (ends_44 _) (lx_tok (w := [44]) (is_one 44 _ (by decide)) (lx_blank (ih b vs hb hv)))))))
theorem cas_lx : ∀ gs : List G3, gs ≠ [] -> (∀ g ∈ gs, Ch E M l h g.1.pl g.2.1 g.2.2 /\ Go.Proofs.YtjakeidbajkdcaaGreatDoor.M.tagB g.1.nm = true /\ Go.Proofs.YtjakeidbajkdcaaGreatDoor.M.nameB g.1.vr = true) -> LxS (joinB [32, 124, 32] (gs.map fun g => brT (chOf l (tx l)) g.1)) (casU gs)
  | [], hn, _ => absurd rfl hn
  | [g], _, hg => by
    obtain ⟨A, hnm, hvr⟩ := hg g (by simp)
    intro b vs hb hv
    rw [List.map_cons, List.map_nil, joinB_one]
    unfold brT
    rw [app2, app2, app2, app2]
    simp only [casU, List.append_nil]
    exact lx_tok (w := g.1.nm.data.toList) (is_tag hnm (ends_32 _)) (lx_blank (lx_tok (w := g.1.vr.data.toList) (is_name hvr (ends_32 _)) (lx_blank (lx_tok (w := [45, 62]) (is_arrow _) (lx_blank (A.t 0 b vs hb hv))))))
  | g :: g2 :: r, _, hg => by
    obtain ⟨A, hnm, hvr⟩ := hg g (by simp)
    have ih := cas_lx (g2 :: r) (by simp) fun g' h' => hg g' (by simp [List.mem_cons.1 h'])
    intro b vs hb hv
    rw [List.map_cons, List.map_cons, joinB_two, app2, app2]
    unfold brT at ih ⊢
    rw [app2, app2, app2, app2]
    have e : casU (g :: g2 :: r) ++ vs = uT g.1.nm :: uN g.1.vr :: uS s_arrow :: (cu g.2.2 0 g.2.1 ++ (uS s_bar :: (casU (g2 :: r) ++ vs))) := by rw [casU]; simp
    rw [e]
    exact lx_tok (w := g.1.nm.data.toList) (is_tag hnm (ends_32 _)) (lx_blank (lx_tok (w := g.1.vr.data.toList) (is_name hvr (ends_32 _)) (lx_blank (lx_tok (w := [45, 62]) (is_arrow _) (lx_blank (A.t 0 _ _ (ends_32 _) (lx_blank (lx_tok (w := [124]) (is_one 124 _ (by decide)) (lx_blank (ih b vs hb hv))))))))))
theorem rec_len : ∀ gs : List G3, (∀ g ∈ gs, Ch E M l h g.1.pl g.2.1 g.2.2) -> (recU gs).length <= 12 * (gs.map fun g => (post l g.1.pl.toNat).length).sum
  | [], _ => Nat.zero_le _
  | [g], hg => by
    have e1 := (hg g (by simp)).ln
    have e2 := cu_len g.2.2 0 g.2.1
    simp [recU]
    omega
  | g :: g2 :: r, hg => by
    have e1 := (hg g (by simp)).ln
    have e2 := cu_len g.2.2 0 g.2.1
    have ih := rec_len (g2 :: r) fun g' h' => hg g' (by simp [List.mem_cons.1 h'])
    rw [recU, List.map_cons, List.sum_cons]
    simp only [List.length_cons, List.length_append] at ih ⊢
    omega
theorem cas_len : ∀ gs : List G3, (∀ g ∈ gs, Ch E M l h g.1.pl g.2.1 g.2.2) -> (casU gs).length <= 12 * (gs.map fun g => (post l g.1.pl.toNat).length).sum
  | [], _ => Nat.zero_le _
  | [g], hg => by
    have e1 := (hg g (by simp)).ln
    have e2 := cu_len g.2.2 0 g.2.1
    simp [casU]
    omega
  | g :: g2 :: r, hg => by
    have e1 := (hg g (by simp)).ln
    have e2 := cu_len g.2.2 0 g.2.1
    have ih := cas_len (g2 :: r) fun g' h' => hg g' (by simp [List.mem_cons.1 h'])
    rw [casU, List.map_cons, List.sum_cons]
    simp only [List.length_cons, List.length_append] at ih ⊢
    omega
theorem any_no {fs : List Fld} {nm : ByteArray} (h : ∀ y ∈ fs, y.nm ≠ nm) : (fs.any fun y => y.nm.toList == nm.toList) = false := by
  rw [List.any_eq_false]
  exact fun y hy he => h y hy (M.str_eq.1 he)
theorem nod_head {fs : List Fld} {nm : ByteArray} {r : List ByteArray} (h : (fs.map Fld.nm ++ nm :: r).Nodup) : (fs.any fun y => y.nm.toList == nm.toList) = false := by
  refine any_no fun y hy => ?_
  exact (List.nodup_append.1 h).2.2 _ (List.mem_map_of_mem hy) _ (by simp)
theorem rec_loop {d : Nat} {p : Int} (hd : d + h <= 101) : ∀ gs : List G3, gs ≠ [] -> (∀ g ∈ gs, Ch E M l h g.1.pl g.2.1 g.2.2) -> ∀ (fs : List Fld) (td : List (List Nd)), fs.length + gs.length <= 30 -> (fs.map Fld.nm ++ gs.map fun g => g.1.nm).Nodup -> ∀ ts rest, Ts M ts (recU gs ++ [uS s_rbra]) ->
    ∃ tt, Lks M tt (gs.map fun g => cp l g.1.pl.toNat []) /\ Ev E (.recL p fs td) d (ts ++ rest) (.ok (joinN { mk 11 p with l := fs ++ gs.map fun g => fld g.1.nm ⟨#[]⟩ } (td ++ tt)) rest)
  | [], hn, _, _, _, _, _, _, _, _ => absurd rfl hn
  | [g], _, hg, fs, td, hl, hnd, ts, rest, hts => by
    simp only [recU, List.append_nil, List.cons_append] at hts
    obtain ⟨q, t2, rfl, _, h2⟩ := hts.cons
    obtain ⟨o, t3, rfl, _, h3⟩ := h2.cons
    obtain ⟨ta, t4, rfl, h4, h5⟩ := h3.app
    obtain ⟨s, t6, rfl, _, h6⟩ := h5.cons
    obtain rfl := h6.nil
    obtain ⟨t, k1, k2⟩ := (hg g (by simp)).e0 hd ta (tS s_rbra s :: rest) h4 (fe_of rfl)
    refine ⟨[t], lks1 k1, ?_⟩
    have := ev_recL0 (p := p) (q := q) (o := o) (nm := g.1.nm) (fs := fs) (ts := td) (by simp at hl; omega) (nod_head hnd) k2
    simp only [List.cons_append, List.append_assoc, List.nil_append] at this ⊢
    exact this
  | g :: g2 :: r, _, hg, fs, td, hl, hnd, ts, rest, hts => by
    have e : recU (g :: g2 :: r) ++ [uS s_rbra] = uN g.1.nm :: uS s_eqs :: (cu g.2.2 0 g.2.1 ++ (uS s_comma :: (recU (g2 :: r) ++ [uS s_rbra]))) := by rw [recU]; simp
    rw [e] at hts
    obtain ⟨q, t2, rfl, _, h2⟩ := hts.cons
    obtain ⟨o, t3, rfl, _, h3⟩ := h2.cons
    obtain ⟨ta, t4, rfl, h4, h5⟩ := h3.app
    obtain ⟨s, t6, rfl, _, h6⟩ := h5.cons
    obtain ⟨t, k1, k2⟩ := (hg g (by simp)).e0 hd ta (tS s_comma s :: (t6 ++ rest)) h4 (fe_of rfl)
    obtain ⟨tt, j1, j2⟩ := rec_loop (p := p) hd (g2 :: r) (by simp) (fun g' h' => hg g' (by simp [List.mem_cons.1 h'])) (fs ++ [fld g.1.nm ⟨#[]⟩]) (td ++ [t]) (by simp at hl ⊢; omega) (by simpa [fld] using hnd) t6 rest h6
    refine ⟨t :: tt, Lks.cons k1 j1, ?_⟩
    have := ev_recL1 (p := p) (q := q) (o := o) (nm := g.1.nm) (by simp at hl; omega) (nod_head hnd) k2 j2
    simp only [List.cons_append, List.append_assoc, List.nil_append, List.map_cons] at this ⊢
    exact this
theorem cas_loop {d : Nat} {p : Int} (hd : d + h <= 101) : ∀ gs : List G3, gs ≠ [] -> (∀ g ∈ gs, Ch E M l h g.1.pl g.2.1 g.2.2) -> ∀ (fs : List Fld) (td : List (List Nd)), fs.length + gs.length <= 30 -> (fs.map Fld.nm ++ gs.map fun g => g.1.nm).Nodup -> ∀ ts rest, Ts M ts (casU gs ++ [uW w_end]) ->
    ∃ tt, Lks M tt (gs.map fun g => cp l g.1.pl.toNat []) /\ Ev E (.casL p fs td) d (ts ++ rest) (.ok (joinN { mk 14 p with l := fs ++ gs.map fun g => fld g.1.nm g.1.vr } (td ++ tt)) rest)
  | [], hn, _, _, _, _, _, _, _, _ => absurd rfl hn
  | [g], _, hg, fs, td, hl, hnd, ts, rest, hts => by
    simp only [casU, List.append_nil, List.cons_append] at hts
    obtain ⟨q, t2, rfl, _, h2⟩ := hts.cons
    obtain ⟨o2, t2, rfl, _, h2⟩ := h2.cons
    obtain ⟨o, t3, rfl, _, h3⟩ := h2.cons
    obtain ⟨ta, t4, rfl, h4, h5⟩ := h3.app
    obtain ⟨s, t6, rfl, _, h6⟩ := h5.cons
    obtain rfl := h6.nil
    obtain ⟨t, k1, k2⟩ := (hg g (by simp)).e0 hd ta (tW w_end s :: rest) h4 (fe_of rfl)
    refine ⟨[t], lks1 k1, ?_⟩
    have := ev_casL0 (p := p) (q := q) (o := o) (o2 := o2) (nm := g.1.nm) (vr := g.1.vr) (fs := fs) (ts := td) (by simp at hl; omega) (nod_head hnd) k2
    simp only [List.cons_append, List.append_assoc, List.nil_append] at this ⊢
    exact this
  | g :: g2 :: r, _, hg, fs, td, hl, hnd, ts, rest, hts => by
    have e : casU (g :: g2 :: r) ++ [uW w_end] = uT g.1.nm :: uN g.1.vr :: uS s_arrow :: (cu g.2.2 0 g.2.1 ++ (uS s_bar :: (casU (g2 :: r) ++ [uW w_end]))) := by rw [casU]; simp
    rw [e] at hts
    obtain ⟨q, t2, rfl, _, h2⟩ := hts.cons
    obtain ⟨o2, t2, rfl, _, h2⟩ := h2.cons
    obtain ⟨o, t3, rfl, _, h3⟩ := h2.cons
    obtain ⟨ta, t4, rfl, h4, h5⟩ := h3.app
    obtain ⟨s, t6, rfl, _, h6⟩ := h5.cons
    obtain ⟨t, k1, k2⟩ := (hg g (by simp)).e0 hd ta (tS s_bar s :: (t6 ++ rest)) h4 (fe_of rfl)
    obtain ⟨tt, j1, j2⟩ := cas_loop (p := p) hd (g2 :: r) (by simp) (fun g' h' => hg g' (by simp [List.mem_cons.1 h'])) (fs ++ [fld g.1.nm g.1.vr]) (td ++ [t]) (by simp at hl ⊢; omega) (by simpa [fld] using hnd) t6 rest h6
    refine ⟨t :: tt, Lks.cons k1 j1, ?_⟩
    have := ev_casL1 (p := p) (q := q) (o := o) (o2 := o2) (nm := g.1.nm) (vr := g.1.vr) (by simp at hl; omega) (nod_head hnd) k2 j2
    simp only [List.cons_append, List.append_assoc, List.nil_append, List.map_cons] at this ⊢
    exact this
theorem n_record (C : Cx M l i x) (h1 : x.kind = 11) (H : ∀ f ∈ x.l, ∃ us y, Ch E M l (dpt l i) f.pl us y) : NG E M l i x := by
  have hlab := C.R.lab (.inl h1)
  rw [h1] at hlab
  unfold labB at hlab
  simp only [Bool.and_eq_true, decide_eq_true_eq, Bool.not_eq_true', List.all_eq_true] at hlab
  obtain ⟨hfok, ⟨h30, _⟩, htw⟩ := hlab
  have hnd := tw_nodup htw
  obtain ⟨gs, hg1, hg2⟩ := choose_fl x.l H
  have hks : kids x = gs.map fun g => g.1.pl := by
    unfold kids kids0 many
    rw [<- hg1]
    simp [h1]
  have hb : body x (chOf l (tx l)) = (⟨#[123]⟩ ++ joinB [44, 32] (gs.map fun g => partT (chOf l (tx l)) g.1)) ++ ⟨#[125]⟩ := by
    rw [body_11 h1, <- hg1, List.map_map]; rfl
  have hfo : ∀ g ∈ gs, Go.Proofs.YtjakeidbajkdcaaGreatDoor.M.nameB g.1.nm = true /\ g.1.vr = ⟨#[]⟩ := fun g hg => by
    have := hfok g.1 (by rw [<- hg1]; exact List.mem_map_of_mem hg)
    unfold fok at this
    rw [if_pos rfl, Bool.and_eq_true] at this
    exact ⟨this.1, emp this.2⟩
  have hsh : ∀ p, shp { mk 11 p with l := gs.map fun g => fld g.1.nm ⟨#[]⟩ } x := fun p => ⟨h1.symm, (C.R.n (by omega) (by omega) (by omega)).symm, (C.R.no (by omega) (by omega)).symm, (C.R.s (by omega)).symm, by
    rw [<- hg1, List.map_map, List.map_map]
    exact List.map_congr_left fun g hg => by
      show (g.1.nm, (⟨#[]⟩ : ByteArray)) = (g.1.nm, g.1.vr)
      exact congrArg (fun z => (g.1.nm, z)) (hfo g hg).2.symm⟩
  cases gs with
  | nil =>
    refine ⟨[uS s_lbra, uS s_rbra], ?_, ?_, by rw [plen C, hks]; exact (by decide : 2 + 6 <= 12 * 1)⟩
    · rw [C.tx, hb]
      intro b vs hb hv
      rw [app2, app2]
      exact lx_tok (w := [123]) (is_one 123 _ (by decide)) (lx_tok (w := [125]) (is_one 125 _ (by decide)) hv)
    · rw [h1]
      refine nk7 ⟨_, _, rfl, .inr (.inr (.inr (.inr ⟨rfl, .inr rfl⟩)))⟩ fun d hd ts rest hts => ?_
      obtain ⟨p, t2, rfl, hp, h2⟩ := hts.cons
      obtain ⟨q, t3, rfl, _, h3⟩ := h2.cons
      obtain rfl := h3.nil
      exact ⟨_, node_lk C.hk C.hx (hsh p) hp (by rw [hks]; exact Lks.nil), ev_rec0⟩
  | cons g r =>
    refine ⟨uS s_lbra :: (recU (g :: r) ++ [uS s_rbra]), ?_, ?_, by
      have e1 := rec_len (g :: r) hg2
      rw [plen C, hks, List.map_map]
      simp only [List.length_cons, List.length_append, List.length_nil, Function.comp_def]
      omega⟩
    · rw [C.tx, hb]
      intro b vs hb hv
      rw [app2, app2]
      have e : uS s_lbra :: (recU (g :: r) ++ [uS s_rbra]) ++ vs = uS s_lbra :: (recU (g :: r) ++ (uS s_rbra :: vs)) := by simp
      rw [e]
      exact lx_tok (w := [123]) (is_one 123 _ (by decide)) (rec_lx (g :: r) (by simp) (fun g hg => ⟨hg2 g hg, (hfo g hg).1⟩) _ _ (ends_125 _) (lx_tok (w := [125]) (is_one 125 _ (by decide)) hv))
    · rw [h1]
      refine nk7 ⟨_, _, rfl, .inr (.inr (.inr (.inr ⟨rfl, .inr rfl⟩)))⟩ fun d hd ts rest hts => ?_
      obtain ⟨p, t2, rfl, hp, h2⟩ := hts.cons
      have hlen : (g :: r).length = x.l.length := by rw [<- hg1, List.length_map]
      obtain ⟨tt, j1, j2⟩ := rec_loop (E := E) (p := p) hd (g :: r) (by simp) hg2 [] [] (by rw [hlen]; simpa using h30) (by rw [<- hg1, List.map_map] at hnd; exact hnd) t2 rest h2
      refine ⟨_, node_lk C.hk C.hx (hsh p) hp (by rw [hks, List.map_map]; exact j1), ?_⟩
      obtain ⟨vs, hvs⟩ : ∃ vs, recU (g :: r) ++ [uS s_rbra] = uN g.1.nm :: vs := by
        cases r with
        | nil => exact ⟨_, rfl⟩
        | cons g2 r => exact ⟨_, rfl⟩
      rw [hvs] at h2
      obtain ⟨q, t3, rfl, _, _⟩ := h2.cons
      exact ev_rec1 j2
theorem n_case (C : Cx M l i x) (h1 : x.kind = 14) (A : Ch E M l (dpt l i) x.a usa ya) (H : ∀ f ∈ x.l, ∃ us y, Ch E M l (dpt l i) f.pl us y) : NG E M l i x := by
  have hlab := C.R.lab (.inr h1)
  rw [h1] at hlab
  unfold labB at hlab
  simp only [Bool.and_eq_true, Bool.or_eq_true, decide_eq_true_eq, Bool.not_eq_true', List.all_eq_true] at hlab
  obtain ⟨hfok, ⟨h30, hpos⟩, htw⟩ := hlab
  have hnd := tw_nodup htw
  obtain ⟨gs, hg1, hg2⟩ := choose_fl x.l H
  have hks : kids x = x.a :: gs.map fun g => g.1.pl := by
    unfold kids kids0 many
    rw [<- hg1]
    simp [h1]
  have hb : body x (chOf l (tx l)) = (((⟨#[99, 97, 115, 101, 32]⟩ ++ chOf l (tx l) x.a 0) ++ ⟨#[32, 111, 102, 32]⟩) ++ joinB [32, 124, 32] (gs.map fun g => brT (chOf l (tx l)) g.1)) ++ ⟨#[32, 101, 110, 100]⟩ := by
    rw [body_14 h1, <- hg1, List.map_map]; rfl
  have hfo : ∀ g ∈ gs, Go.Proofs.YtjakeidbajkdcaaGreatDoor.M.tagB g.1.nm = true /\ Go.Proofs.YtjakeidbajkdcaaGreatDoor.M.nameB g.1.vr = true := fun g hg => by
    have := hfok g.1 (by rw [<- hg1]; exact List.mem_map_of_mem hg)
    unfold fok at this
    rw [if_neg (by decide), Bool.and_eq_true] at this
    exact this
  have hsh : ∀ p, shp { mk 14 p with l := gs.map fun g => fld g.1.nm g.1.vr } x := fun p => ⟨h1.symm, (C.R.n (by omega) (by omega) (by omega)).symm, (C.R.no (by omega) (by omega)).symm, (C.R.s (by omega)).symm, by
    rw [<- hg1, List.map_map, List.map_map]; rfl⟩
  have hlen : gs.length = x.l.length := by rw [<- hg1, List.length_map]
  have hne : gs ≠ [] := fun e => by rw [e] at hlen; simp at hlen; omega
  refine ⟨uW w_case :: (cu ya 0 usa ++ (uW w_of :: (casU gs ++ [uW w_end]))), ?_, ?_, by
    have e1 := cas_len gs hg2
    have e2 := A.ln
    have e3 := cu_len ya 0 usa
    rw [plen C, hks, List.map_cons, List.sum_cons, List.map_map]
    simp only [List.length_cons, List.length_append, List.length_nil, Function.comp_def]
    omega⟩
  · rw [C.tx, hb]
    intro b vs hb hv
    rw [app2, app2, app2, app2]
    have e : uW w_case :: (cu ya 0 usa ++ (uW w_of :: (casU gs ++ [uW w_end]))) ++ vs = uW w_case :: (cu ya 0 usa ++ (uW w_of :: (casU gs ++ (uW w_end :: vs)))) := by simp
    rw [e]
    exact lx_tok (w := w_case) (key_ok (by decide +kernel) (ends_32 _)) (lx_blank (A.t 0 _ _ (ends_32 _) (lx_blank (lx_tok (w := w_of) (key_ok (by decide +kernel) (ends_32 _)) (lx_blank (cas_lx gs hne (fun g hg => ⟨hg2 g hg, (hfo g hg)⟩) _ _ (ends_32 _) (lx_blank (lx_tok (w := w_end) (key_ok (by decide +kernel) hb) hv))))))))
  · rw [h1]
    refine nk7 ⟨_, _, rfl, .inr (.inr (.inr (.inl ⟨rfl, .inr (.inr rfl)⟩)))⟩ fun d hd ts rest hts => ?_
    obtain ⟨p, t2, rfl, hp, h2⟩ := hts.cons
    obtain ⟨ta, t3, rfl, h3, h4⟩ := h2.app
    obtain ⟨q, t5, rfl, _, h5⟩ := h4.cons
    obtain ⟨t, k1, k2⟩ := A.e0 hd ta (tW w_of q :: (t5 ++ rest)) h3 (fe_of rfl)
    obtain ⟨tt, j1, j2⟩ := cas_loop (E := E) (p := p) hd gs hne hg2 [] [t] (by rw [hlen]; simpa using h30) (by rw [<- hg1, List.map_map] at hnd; exact hnd) t5 rest h5
    refine ⟨_, node_lk C.hk C.hx (hsh p) hp (by rw [hks, List.map_cons, List.map_map]; exact Lks.cons k1 j1), ?_⟩
    have := ev_case (p := p) k2 j2
    simp only [List.cons_append, List.append_assoc, List.nil_append] at this ⊢
    exact this
end
open T S
theorem le_fold : ∀ (zs : List Nat) (b a : Nat), a ∈ zs ∨ a <= b -> a <= zs.foldl max b
  | [], b, a, h => by
    rcases h with h | h
    · cases h
    · exact h
  | c :: zs, b, a, h => le_fold zs (max b c) a (by
      rcases h with h | h
      · rcases List.mem_cons.1 h with rfl | h
        · exact .inr (Nat.le_max_right _ _)
        · exact .inl h
      · exact .inr (Nat.le_trans h (Nat.le_max_left _ _)))
theorem dpt_kid {l : List Nd} {i : Nat} {x : Nd} (hk : kidsOk l) (hx : l[i]? = some x) {k : Int} (hm : k ∈ kids x) : 1 <= dpt l k.toNat /\ dpt l k.toNat + 1 <= dpt l i := by
  have ha : T.ahead i x := hk i x hx
  have hb := ha k hm
  have hi : i < l.length := (List.getElem?_eq_some_iff.1 hx).1
  obtain ⟨y, hy⟩ : ∃ y, l[k.toNat]? = some y := ⟨_, List.getElem?_eq_getElem (by omega)⟩
  refine ⟨by unfold dpt; rw [deeps_mx hy (hk _ y hy)]; omega, ?_⟩
  have e : dpt l i = mx l (kids x) + 1 := deeps_mx hx ha
  rw [e]
  have : dpt l k.toNat <= mx l (kids x) := le_fold _ 0 _ (.inl (List.mem_map.2 ⟨k, hm, rfl⟩))
  omega
theorem node_all {E M : Int} {l : List Nd} (hk : kidsOk l) (hr : ∀ x ∈ l, rightB x = true) (hc : recOk l) (hn : ∀ x ∈ l, W.InR x.n) (hM : 0 <= M) : ∀ i x, l[i]? = some x -> NG E M l i x := by
  intro i
  induction i using Nat.strongRecOn with
  | ind i ih =>
    intro x hx
    have hxl := List.mem_of_getElem? hx
    have R := rt_of (hr x hxl)
    have hkk : ∀ x ∈ l, 1 <= x.kind /\ x.kind <= 14 := fun y hy => ⟨(rt_of (hr y hy)).k1, (rt_of (hr y hy)).k2⟩
    have C : Cx M l i x := ⟨hk, hx, R, tx_eq hk hkk hx, hn x hxl, hM⟩
    have hi : i < l.length := (List.getElem?_eq_some_iff.1 hx).1
    have H : ∀ k ∈ kids x, ∃ us y, Ch E M l (dpt l i) k us y := fun k hm => by
      have hb := hk i x hx k hm
      obtain ⟨y, hy⟩ : ∃ y, l[k.toNat]? = some y := ⟨_, List.getElem?_eq_getElem (by omega)⟩
      obtain ⟨us, h1, h2, h3⟩ := ih k.toNat (by omega) y hy
      obtain ⟨d1, d2⟩ := dpt_kid hk hx hm
      exact ⟨us, y, hy, h1, h2, d1, d2, h3⟩
    have k1 := R.k1
    have k2 := R.k2
    rcases (by omega : x.kind = 1 ∨ x.kind = 2 ∨ x.kind = 3 ∨ x.kind = 4 ∨ x.kind = 5 ∨ x.kind = 6 ∨ x.kind = 7 ∨ x.kind = 8 ∨ x.kind = 9 ∨ x.kind = 10 ∨ x.kind = 11 ∨ x.kind = 12 ∨ x.kind = 13 ∨ x.kind = 14) with h | h | h | h | h | h | h | h | h | h | h | h | h | h
    · exact n_int C h
    · exact n_bool C h
    · exact n_str C h
    · exact n_var C h
    · obtain ⟨us, y, A⟩ := H x.a (by rw [kid1 (.inl h)]; simp)
      exact n_fun C h A
    · obtain ⟨us, y, A⟩ := H x.a (by rw [kid2 (.inl h)]; simp)
      obtain ⟨ub, yb, B⟩ := H x.b (by rw [kid2 (.inl h)]; simp)
      exact n_app C h A B
    · obtain ⟨us, y, A⟩ := H x.a (by rw [kid2 (.inr (.inl h))]; simp)
      obtain ⟨ub, yb, B⟩ := H x.b (by rw [kid2 (.inr (.inl h))]; simp)
      exact n_let C h A B
    · obtain ⟨us, y, A⟩ := H x.a (by rw [kid2 (.inr (.inr (.inl h)))]; simp)
      obtain ⟨ub, yb, B⟩ := H x.b (by rw [kid2 (.inr (.inr (.inl h)))]; simp)
      obtain ⟨y', hy', h5⟩ := hc i x hx h
      have := A.hy.symm.trans hy'
      injection this with this
      subst this
      exact n_rec C h A B h5
    · obtain ⟨us, y, A⟩ := H x.a (by rw [kid3 h]; simp)
      obtain ⟨ub, yb, B⟩ := H x.b (by rw [kid3 h]; simp)
      obtain ⟨uc, yc, D⟩ := H x.c (by rw [kid3 h]; simp)
      exact n_if C h A B D
    · obtain ⟨us, y, A⟩ := H x.a (by rw [kid2 (.inr (.inr (.inr h)))]; simp)
      obtain ⟨ub, yb, B⟩ := H x.b (by rw [kid2 (.inr (.inr (.inr h)))]; simp)
      exact n_prim C h A B
    · exact n_record C h fun f hf => H f.pl (by
        unfold kids kids0 many
        simp only [h]
        simpa using ⟨f, hf, rfl⟩)
    · obtain ⟨us, y, A⟩ := H x.a (by rw [kid1 (.inr (.inl h))]; simp)
      exact n_get C h A
    · obtain ⟨us, y, A⟩ := H x.a (by rw [kid1 (.inr (.inr h))]; simp)
      exact n_tag C h A
    · obtain ⟨us, y, A⟩ := H x.a (by unfold kids kids0; simp [h])
      exact n_case C h A fun f hf => H f.pl (by
        unfold kids kids0 many
        simp only [h]
        simpa using .inr ⟨f, hf, rfl⟩)
theorem read_back {l : List Nd} (hm : may l = 0) (hn : ∀ x ∈ l, W.InR x.n) {s : ByteArray} (hs : tx l (l.length - 1) = s) (hz : s.size <= 1048576) :
    L.err s = 0 /\ (L.toks s).length <= 200000 /\ ∃ t, Lk 1048576 t (cp l (l.length - 1) []) /\ whole (L.place s) (A.tks s) = .ok t [] := by
  obtain ⟨h1, ⟨h2, h3, h4, h5⟩, h6⟩ := may_zero hm
  obtain ⟨x, hx⟩ : ∃ x, l[l.length - 1]? = some x := ⟨_, List.getElem?_eq_getElem (by omega)⟩
  obtain ⟨us, k1, k2, k4⟩ := node_all (E := L.place s) (M := 1048576) h3 h2 h5 hn (by decide) _ x hx
  rw [hs] at k1
  have k3 := k1 [] [] ends_nil lx_nil
  rw [List.append_nil, List.append_nil] at k3
  obtain ⟨j1, j2⟩ := k3 s 0 (s.size + 1) (Nat.zero_le _) (by rw [List.drop_zero]) (by rw [M.size_len]; omega)
  obtain ⟨e1, e2, e3⟩ := L.no_wrong (s := s) (l := L.items s) rfl fun y hy => (j1 y hy).1
  have hts : Ts 1048576 (A.tks s) us := by
    unfold A.tks
    rw [e1]
    refine ⟨by rw [List.map_map]; exact j2, fun t ht => ?_⟩
    obtain ⟨y, hy, rfl⟩ := List.mem_map.1 ht
    have := (j1 y hy).2
    show 0 <= ((y.2 : Nat) : Int) /\ ((y.2 : Nat) : Int) <= 1048576
    omega
  have hd : 1 <= dpt l (l.length - 1) := by unfold dpt; rw [deeps_mx hx (h3 _ x hx)]; omega
  have hre := k2.ex (d := 0) hd (by show 0 + (deeps l).getD (l.length - 1) 0 <= 100; unfold root at h6; omega)
  obtain ⟨t, i1, i2⟩ := hre (A.tks s) [] hts ⟨⟨⟨⟨rfl, rfl⟩, rfl⟩, rfl⟩, rfl⟩
  rw [List.append_nil] at i2
  refine ⟨e3, ?_, t, i1, ?_⟩
  · have q1 := congrArg List.length j2
    rw [List.length_map] at q1
    have q2 := post_len h3 h4.1 (i := l.length - 1) (by omega)
    rw [e1]
    show (L.its (s.size + 1) s (L.nx s 0)).length <= 200000
    omega
  have : ex (L.place s) (A.tks s) = .ok t [] := i2.need (Nat.le_refl _)
  unfold whole
  rw [this]
open T S
section
variable {t e : List Nd}
theorem z_at (h : t.map z = e.map z) {i : Nat} {x : Nd} (hx : t[i]? = some x) : ∃ y, e[i]? = some y /\ z x = z y := by
  have h1 := congrArg (fun l => l[i]?) h
  simp only [List.getElem?_map, hx, Option.map_some] at h1
  cases he : e[i]? with
  | none => rw [he] at h1; cases h1
  | some y => rw [he] at h1; simp only [Option.map_some, Option.some.injEq] at h1; exact ⟨y, rfl, h1⟩
theorem z_eq {x y : Nd} (h : z x = z y) : x = { y with pos := x.pos } := by
  obtain ⟨k, a, b, c, n, nm, s, l, p⟩ := x
  obtain ⟨k', a', b', c', n', nm', s', l', p'⟩ := y
  unfold z at h
  injection h with h1 h2 h3 h4 h5 h6 h7 h8 h9
  subst h1 h2 h3 h4 h5 h6 h7 h8
  rfl
theorem z_kids {x y : Nd} (h : z x = z y) : kids x = kids y := by
  have e1 : kids x = kids (z x) := rfl
  have e2 : kids y = kids (z y) := rfl
  rw [e1, e2, h]
theorem kidsOk_z (h : t.map z = e.map z) (he : kidsOk e) : kidsOk t := fun i x hx k hm => by
  obtain ⟨y, hy, hxy⟩ := z_at h hx
  rw [z_kids hxy] at hm
  exact he i y hy k hm
theorem allKids_z (l : List Nd) : allKids (l.map z) = allKids l := by
  unfold allKids
  rw [List.flatMap_map]
  rfl
theorem deeps_z (l : List Nd) : deeps (l.map z) = deeps l := by
  unfold deeps
  rw [List.foldl_map]
  rfl
theorem right_z {x y : Nd} (h : z x = z y) (hp : 0 <= x.pos /\ x.pos <= 1048576) (hy : rightB y = true) : rightB x = true := by
  rw [z_eq h]
  have h1 := (rt_of hy).k1
  have h2 := (rt_of hy).k2
  unfold rightB rB at hy ⊢
  simp only [Bool.and_eq_true] at hy ⊢
  obtain ⟨⟨⟨⟨⟨_, c2⟩, c3⟩, c4⟩, c5⟩, c6⟩ := hy
  refine ⟨⟨⟨⟨⟨?_, c2⟩, c3⟩, c4⟩, c5⟩, c6⟩
  simp only [Bool.not_eq_true', Bool.or_eq_false_iff, decide_eq_false_iff_not]
  omega
theorem may_z (h : t.map z = e.map z) (hp : ∀ x ∈ t, 0 <= x.pos /\ x.pos <= 1048576) (he : may e = 0) : may t = 0 := by
  obtain ⟨h1, ⟨h2, h3, h4, h5⟩, h6⟩ := may_zero he
  have hl : t.length = e.length := by simpa using congrArg List.length h
  have ha : allKids t = allKids e := by rw [<- allKids_z t, h, allKids_z]
  have hd : deeps t = deeps e := by rw [<- deeps_z t, h, deeps_z]
  refine may_ok (by omega) ⟨fun x hx => ?_, kidsOk_z h h3, ?_, fun i x hx hk => ?_⟩ (by unfold root at h6 ⊢; rw [hd, hl]; omega)
  · obtain ⟨i, hi⟩ := List.getElem?_of_mem hx
    obtain ⟨y, hy, hxy⟩ := z_at h hi
    exact right_z hxy (hp x hx) (h2 y (List.mem_of_getElem? hy))
  · unfold onceOk at h4 ⊢
    rw [ha, hl]
    exact h4
  · obtain ⟨y, hy, hxy⟩ := z_at h hx
    have ex := z_eq hxy
    obtain ⟨u, hu, hu5⟩ := h5 i y hy (by rw [ex] at hk; exact hk)
    have hxa : x.a = y.a := by rw [ex]
    obtain ⟨v, hv, huv⟩ := z_at h.symm hu
    exact ⟨v, by rw [hxa]; exact hv, by have := z_eq huv; rw [this] at hu5; exact hu5⟩
theorem sn_z {x y : Nd} (h : z x = z y) : sn x y = true := by
  have h1 := A.sn_self (z y)
  have e1 : sn x y = sn (z x) (z y) := rfl
  rw [e1, h]
  exact h1
theorem ln_z (h : t.map z = e.map z) : ln t e = true := by
  have hl : t.length = e.length := by simpa using congrArg List.length h
  unfold ln
  rw [Bool.and_eq_true]
  refine ⟨by rw [hl]; exact beq_self_eq_true _, lns_yes (fun j x y hx hy => ?_) hl⟩
  obtain ⟨y', hy', hxy⟩ := z_at h hx
  rw [hy] at hy'
  injection hy' with hy'
  subst hy'
  exact sn_z hxy
end
theorem tf_z (l : List Nd) : ∀ f i, tf (l.map z) f i = tf l f i := by
  intro f
  induction f with
  | zero => intro i; rfl
  | succ f ih =>
    intro i
    have hc : chOf (l.map z) (tf (l.map z) f) = chOf l (tf l f) := by
      funext k m
      unfold chOf
      rw [List.getElem?_map]
      cases l[k.toNat]? with
      | none => rfl
      | some y =>
        show bra (S.tight y.kind y.n) m (tf (l.map z) f k.toNat) = bra (S.tight y.kind y.n) m (tf l f k.toNat)
        rw [ih]
    rw [tf, tf, List.getElem?_map, hc]
    cases l[i]? with
    | none => rfl
    | some x => rfl
theorem tx_z {t e : List Nd} (h : t.map z = e.map z) (i : Nat) : tx t i = tx e i := by
  unfold tx
  rw [<- tf_z t, h, tf_z]
theorem tf_app {P B : List Nd} (hk : kidsOk P) (hr : ∀ x ∈ P, 1 <= x.kind /\ x.kind <= 14) : ∀ f i, i < P.length -> tf (P ++ B) f i = tf P f i := by
  intro f
  induction f with
  | zero => intro i _; rfl
  | succ f ih =>
    intro i hi
    rw [tf, tf, List.getElem?_append_left hi]
    cases hx : P[i]? with
    | none => rfl
    | some x =>
      simp only
      refine body_eq (hr x (List.mem_of_getElem? hx)).1 (hr x (List.mem_of_getElem? hx)).2 fun k hm m => ?_
      have hb := hk i x hx k hm
      unfold chOf
      rw [List.getElem?_append_left (by omega), ih k.toNat (by omega)]
theorem tx_app {P B : List Nd} (hk : kidsOk P) (hr : ∀ x ∈ P, 1 <= x.kind /\ x.kind <= 14) {i : Nat} (hi : i < P.length) : tx (P ++ B) i = tx P i := tf_app hk hr _ i hi
theorem body_shp {x y : Nd} {c c' : Int -> Int -> ByteArray} (h1 : 1 <= x.kind) (h2 : x.kind <= 14) (hk : y.kind = x.kind) (hn : y.n = x.n) (hm : y.nm = x.nm) (hs : y.s = x.s) (hl : x.kind = 11 ∨ x.kind = 14 -> y.l.map nv = x.l.map nv)
    (h : ∀ (j : Nat) (k k' : Int), (kids x)[j]? = some k -> (kids y)[j]? = some k' -> ∀ m, c' k' m = c k m) : body y c' = body x c := by
  have parts : x.kind = 11 ∨ x.kind = 14 -> ∀ (j : Nat) (f f' : Fld), x.l[j]? = some f -> y.l[j]? = some f' -> f'.nm = f.nm /\ f'.vr = f.vr /\ c' f'.pl 0 = c f.pl 0 := fun h11 j f f' hf hf' => by
    have e := congrArg (fun l => l[j]?) (hl h11)
    simp only [List.getElem?_map, hf, hf', Option.map_some, Option.some.injEq, nv, Prod.mk.injEq] at e
    refine ⟨e.1, e.2, ?_⟩
    rcases h11 with h11 | h11
    · refine h j _ _ ?_ ?_ 0
      · unfold kids kids0 many; simp [h11, hf]
      · unfold kids kids0 many; simp [hk, h11, hf']
    · refine h (j + 1) _ _ ?_ ?_ 0
      · unfold kids kids0 many; simp [h11, hf]
      · unfold kids kids0 many; simp [hk, h11, hf']
  have lens : x.kind = 11 ∨ x.kind = 14 -> y.l.length = x.l.length := fun h11 => by simpa using congrArg List.length (hl h11)
  have maps : x.kind = 11 ∨ x.kind = 14 -> ∀ {F F' : Fld -> ByteArray}, (∀ f f' : Fld, f'.nm = f.nm -> f'.vr = f.vr -> c' f'.pl 0 = c f.pl 0 -> F' f' = F f) -> y.l.map F' = x.l.map F := fun h11 F F' hF => by
    apply List.ext_getElem?
    intro j
    rw [List.getElem?_map, List.getElem?_map]
    have := lens h11
    cases hf : x.l[j]? with
    | none =>
      have : y.l[j]? = none := by rw [List.getElem?_eq_none_iff] at hf ⊢; omega
      rw [this]; rfl
    | some f =>
      have hj := (List.getElem?_eq_some_iff.1 hf).1
      obtain ⟨f', hf'⟩ : ∃ f', y.l[j]? = some f' := ⟨_, List.getElem?_eq_getElem (by omega)⟩
      rw [hf']
      obtain ⟨a, b, d⟩ := parts h11 j f f' hf hf'
      simp only [Option.map_some, hF f f' a b d]
  rcases (by omega : x.kind = 1 ∨ x.kind = 2 ∨ x.kind = 3 ∨ x.kind = 4 ∨ x.kind = 5 ∨ x.kind = 6 ∨ x.kind = 7 ∨ x.kind = 8 ∨ x.kind = 9 ∨ x.kind = 10 ∨ x.kind = 11 ∨ x.kind = 12 ∨ x.kind = 13 ∨ x.kind = 14) with g | g | g | g | g | g | g | g | g | g | g | g | g | g
  · rw [body_1 (hk.trans g), body_1 g, hn]
  · rw [body_2 (hk.trans g), body_2 g, hn]
  · rw [body_3 (hk.trans g), body_3 g, hs]
  · rw [body_4 (hk.trans g), body_4 g, hm]
  · rw [body_5 (hk.trans g), body_5 g, hm, h 0 x.a y.a (by rw [kid1 (.inl g)]; rfl) (by rw [kid1 (.inl (hk.trans g))]; rfl)]
  · rw [body_6 (hk.trans g), body_6 g, h 0 x.a y.a (by rw [kid2 (.inl g)]; rfl) (by rw [kid2 (.inl (hk.trans g))]; rfl), h 1 x.b y.b (by rw [kid2 (.inl g)]; rfl) (by rw [kid2 (.inl (hk.trans g))]; rfl)]
  · rw [body_7 (hk.trans g), body_7 g, hm, h 0 x.a y.a (by rw [kid2 (.inr (.inl g))]; rfl) (by rw [kid2 (.inr (.inl (hk.trans g)))]; rfl), h 1 x.b y.b (by rw [kid2 (.inr (.inl g))]; rfl) (by rw [kid2 (.inr (.inl (hk.trans g)))]; rfl)]
  · rw [body_8 (hk.trans g), body_8 g, hm, h 0 x.a y.a (by rw [kid2 (.inr (.inr (.inl g)))]; rfl) (by rw [kid2 (.inr (.inr (.inl (hk.trans g))))]; rfl), h 1 x.b y.b (by rw [kid2 (.inr (.inr (.inl g)))]; rfl) (by rw [kid2 (.inr (.inr (.inl (hk.trans g))))]; rfl)]
  · rw [body_9 (hk.trans g), body_9 g, h 0 x.a y.a (by rw [kid3 g]; rfl) (by rw [kid3 (hk.trans g)]; rfl), h 1 x.b y.b (by rw [kid3 g]; rfl) (by rw [kid3 (hk.trans g)]; rfl), h 2 x.c y.c (by rw [kid3 g]; rfl) (by rw [kid3 (hk.trans g)]; rfl)]
  · rw [body_10 (hk.trans g), body_10 g, hn, h 0 x.a y.a (by rw [kid2 (.inr (.inr (.inr g)))]; rfl) (by rw [kid2 (.inr (.inr (.inr (hk.trans g))))]; rfl), h 1 x.b y.b (by rw [kid2 (.inr (.inr (.inr g)))]; rfl) (by rw [kid2 (.inr (.inr (.inr (hk.trans g))))]; rfl)]
  · rw [body_11 (hk.trans g), body_11 g, maps (.inl g) (F := partT c) (F' := partT c') fun f f' a _ d => by unfold partT; rw [a, d]]
  · rw [body_12 (hk.trans g), body_12 g, hm, h 0 x.a y.a (by rw [kid1 (.inr (.inl g))]; rfl) (by rw [kid1 (.inr (.inl (hk.trans g)))]; rfl)]
  · rw [body_13 (hk.trans g), body_13 g, hm, h 0 x.a y.a (by rw [kid1 (.inr (.inr g))]; rfl) (by rw [kid1 (.inr (.inr (hk.trans g)))]; rfl)]
  · rw [body_14 (hk.trans g), body_14 g, maps (.inr g) (F := brT c) (F' := brT c') fun f f' a b d => by unfold brT; rw [a, b, d], h 0 x.a y.a (by unfold kids kids0; simp [g]) (by unfold kids kids0; simp [hk, g])]
theorem relab_two_nv : ∀ (l : List Fld) (ks : List Int), ks.length = l.length -> (relab l ks).map nv = l.map nv
  | [], _, _ => rfl
  | x :: l, [], h => by simp at h
  | x :: l, k :: ks, h => by
    show nv { x with pl := k } :: (relab l ks).map nv = _
    rw [relab_two_nv l ks (by simpa using h)]
    rfl
theorem tx_cp {l : List Nd} (hk : kidsOk l) (hr : ∀ x ∈ l, rightB x = true) : ∀ i, i < l.length -> ∀ out : List Nd, kidsOk out -> (∀ x ∈ out, rightB x = true) ->
    tx (cp l i out) ((cp l i out).length - 1) = tx l i /\ ∃ x y, l[i]? = some x /\ (cp l i out)[(cp l i out).length - 1]? = some y /\ y.kind = x.kind /\ y.n = x.n := by
  have kk : ∀ {l : List Nd}, (∀ x ∈ l, rightB x = true) -> ∀ x ∈ l, 1 <= x.kind /\ x.kind <= 14 := fun h x hx => ⟨(rt_of (h x hx)).k1, (rt_of (h x hx)).k2⟩
  intro i
  induction i using Nat.strongRecOn with
  | ind i ih =>
    intro hi out ho hro
    obtain ⟨x, hx⟩ : ∃ x, l[i]? = some x := ⟨_, List.getElem?_eq_getElem hi⟩
    have ha : T.ahead i x := hk i x hx
    have key : ∀ ks : List Int, (∀ k ∈ ks, 0 <= k /\ k < (i : Int)) -> kidsOk (cps l (out, []) ks).1 /\ (∀ x ∈ (cps l (out, []) ks).1, rightB x = true) /\ (cps l (out, []) ks).2.length = ks.length /\
        ∀ (j : Nat) (k k' : Int), ks[j]? = some k -> (cps l (out, []) ks).2[j]? = some k' -> 0 <= k' /\ k'.toNat < (cps l (out, []) ks).1.length /\ tx (cps l (out, []) ks).1 k'.toNat = tx l k.toNat /\ ∃ u v, l[k.toNat]? = some u /\ (cps l (out, []) ks).1[k'.toNat]? = some v /\ v.kind = u.kind /\ v.n = u.n := by
      intro ks
      induction ks using snocInd with
      | h0 => intro _; exact ⟨ho, hro, rfl, fun j k k' h _ => by simp at h⟩
      | h1 ks k ih2 =>
        intro hks
        obtain ⟨b1, b2, b3, b4⟩ := ih2 fun k' h' => hks k' (by simp [h'])
        have hkk := hks k (by simp)
        have hlt : k.toNat < i := by omega
        obtain ⟨P, hP⟩ : ∃ P, (cps l (out, []) ks).1 = P := ⟨_, rfl⟩
        obtain ⟨J, hJ⟩ : ∃ J, (cps l (out, []) ks).2 = J := ⟨_, rfl⟩
        rw [hP, hJ] at b4
        rw [hP] at b1 b2
        rw [hJ] at b3
        have e : cps l (out, []) (ks ++ [k]) = (cp l k.toNat P, J ++ [((cp l k.toNat P).length : Int) - 1]) := by rw [cps_snoc, hP, hJ]
        have hc := cp_kids hk k.toNat (by omega) P b1
        have hrr := cp_right hk hr k.toNat (by omega) P b2
        obtain ⟨t1, t2⟩ := ih k.toNat hlt (by omega) P b1 b2
        have hsh := cp_shift hk k.toNat (by omega) P
        rw [e]
        refine ⟨hc.1, hrr, by simp [b3], fun j m m' hm hm' => ?_⟩
        by_cases hj : j < ks.length
        · rw [List.getElem?_append_left hj] at hm
          simp only at hm' ⊢
          rw [List.getElem?_append_left (by omega)] at hm'
          obtain ⟨c1, c2, c3, u, v, c4, c5, c6⟩ := b4 j m m' hm hm'
          refine ⟨c1, by omega, ?_, u, v, c4, ?_, c6⟩
          · rw [hsh, tx_app b1 (kk b2) c2]; exact c3
          · rw [hsh, List.getElem?_append_left c2]; exact c5
        · simp only at hm' ⊢
          rw [List.getElem?_append_right (by omega)] at hm hm'
          have hj0 : j - ks.length = 0 := by
            rcases Nat.eq_zero_or_pos (j - ks.length) with h | h
            · exact h
            · rw [List.getElem?_eq_none (by simp; omega)] at hm; cases hm
          rw [hj0] at hm
          rw [show j - J.length = 0 by omega] at hm'
          simp only [List.getElem?_cons_zero, Option.some.injEq] at hm hm'
          subst hm hm'
          have hn : ((((cp l k.toNat P).length : Int) - 1)).toNat = (cp l k.toNat P).length - 1 := by omega
          rw [hn]
          exact ⟨by omega, by omega, t1, t2⟩
    obtain ⟨P, hP⟩ : ∃ P, (cps l (out, []) (kids x)).1 = P := ⟨_, rfl⟩
    obtain ⟨J, hJ⟩ : ∃ J, (cps l (out, []) (kids x)).2 = J := ⟨_, rfl⟩
    have hC : cp l i out = P ++ [wk x J] := by rw [cp_eq hx ha, hP, hJ]
    obtain ⟨b1, b2, b3, b4⟩ := key (kids x) ha
    rw [hP] at b1 b2
    rw [hJ] at b3
    rw [hP, hJ] at b4
    have hck := (cp_kids hk i hi out ho).1
    have hcr := cp_right hk hr i hi out hro
    rw [hC] at hck hcr ⊢
    have hlast : (P ++ [wk x J])[(P ++ [wk x J]).length - 1]? = some (wk x J) := by simp
    have hR := rt_of (hr x (List.mem_of_getElem? hx))
    refine ⟨?_, x, wk x J, hx, hlast, rfl, rfl⟩
    rw [tx_eq hck (kk hcr) hlast, tx_eq hk (kk hr) hx]
    refine body_shp hR.k1 hR.k2 rfl rfl rfl rfl (fun h11 => ?_) fun j k k' hkj hkj' m => ?_
    · have hm : many x = true := by unfold many; simp [h11]
      show (if many x = true then relab x.l (J.drop (T.own x)) else []).map nv = _
      rw [if_pos hm]
      refine relab_two_nv _ _ ?_
      have := kids_length x
      rw [if_pos hm] at this
      rw [List.length_drop, b3, this]; omega
    · rw [kids_wk b3] at hkj'
      obtain ⟨c1, c2, c3, u, v, c4, c5, c6, c7⟩ := b4 j k k' hkj hkj'
      unfold chOf
      rw [List.getElem?_append_left c2, c5, c4]
      simp only
      rw [c6, c7, tx_app b1 (kk b2) c2, c3]
open T S
theorem cp_num {l : List Nd} (hk : kidsOk l) (hr : ∀ x ∈ l, Num x) : ∀ i, i < l.length -> ∀ out : List Nd, (∀ x ∈ out, Num x) -> ∀ x ∈ cp l i out, Num x := by
  intro i
  induction i using Nat.strongRecOn with
  | ind i ih =>
    intro hi out ho
    obtain ⟨x, hx⟩ : ∃ x, l[i]? = some x := ⟨_, List.getElem?_eq_getElem hi⟩
    have ha : T.ahead i x := fun k hk' => hk i x hx k hk'
    have key : ∀ ks : List Int, (∀ k ∈ ks, 0 <= k /\ k < (i : Int)) -> ∀ y ∈ (cps l (out, []) ks).1, Num y := by
      intro ks
      induction ks using snocInd with
      | h0 => intro _; exact ho
      | h1 ks k ih2 =>
        intro hks
        have hkk := hks k (by simp)
        rw [cps_snoc]
        exact ih k.toNat (toNat_lt hkk) (by omega) _ (ih2 fun k' hk' => hks k' (by simp [hk']))
    rw [cp_eq hx ha out]
    intro y hy
    rcases List.mem_append.1 hy with hy | hy
    · exact key _ (fun k hk' => ha k hk') y hy
    · obtain rfl := List.mem_singleton.1 hy
      exact hr x (List.mem_of_getElem? hx)
theorem small_of {x : Nd} (h : rightB x = true) : Small x := by
  have o := own_of h
  refine ⟨by have := o.nm; omega, by have := o.s; omega, by have := o.l; omega, fun f hf => ?_⟩
  have := o.f f hf
  omega
theorem back_all {l : List Nd} (hm : may l = 0) (hn : ∀ x ∈ l, Num x) :
    L.err (shown l) = 0 /\ (L.toks (shown l)).length <= 200000 /\ ∃ t, A.asked (shown l) = (t, 0, 0) /\ tsm t l = true /\ may t = 0 /\ shown t = shown l /\ (∀ x ∈ t, Small x) /\ ∀ x ∈ t, Num x := by
  obtain ⟨h1, ⟨h2, h3, h4, h5⟩, h6⟩ := may_zero hm
  have hsz := shown_le (good_of hm hn) hm
  have hsh : tx l (l.length - 1) = shown l := by unfold shown; rw [if_pos hm]
  obtain ⟨e1, e2, t, e3, e4⟩ := read_back hm hn hsh (by omega)
  have hi : l.length - 1 < l.length := by omega
  have hmc := may_cp hm
  have hnr : nrm l = cp l (l.length - 1) [] := by rw [nrm, if_pos hm]
  rw [hnr] at hmc
  have hmt : may t = 0 := may_z e3.1 e3.2 hmc.1
  obtain ⟨g1, g2, g3, g4, g5⟩ := ex_ok (whole_ok e4)
  have hfar : ¬ far t = true := by
    unfold far
    rw [List.any_eq_true]
    rintro ⟨x, hx, hp⟩
    have := (e3.2 x hx).2
    have := of_decide_eq_true hp
    omega
  have hask : A.asked (shown l) = (t, 0, 0) := by
    unfold A.asked
    rw [if_pos e1, e4]
    unfold told
    simp only
    rw [if_neg hfar, if_pos hmt]
  obtain ⟨_, ⟨r2, _, _, _⟩, _⟩ := may_zero hmt
  refine ⟨e1, e2, t, hask, ?_, hmt, ?_, fun x hx => small_of (r2 x hx), fun x hx => ?_⟩
  · unfold tsm
    rw [hmt, hm, ord_nrm g1 hmt, hnr, ln_z e3.1]
    rfl
  · have ht := (tx_cp h3 h2 _ hi [] (fun i x hx => by simp at hx) (fun x hx => by cases hx)).1
    have hst : shown t = tx t (t.length - 1) := by unfold shown; rw [if_pos hmt]
    rw [hst, tx_z e3.1, e3.len, ht, hsh]
  · obtain ⟨i, hi'⟩ := List.getElem?_of_mem hx
    obtain ⟨y, hy, hxy⟩ := z_at e3.1 hi'
    have := cp_num h3 hn _ hi [] (fun x hx => by cases hx) y (List.mem_of_getElem? hy)
    rw [z_eq hxy]
    exact this
end Go.Proofs.YtjakeidbajkdcaaGreatDoor.Y
namespace Go.Proofs.YtjakeidbajkdcaaGreatDoor.S
open T Go.RowKit Go.Shelf
section
variable (A0 : Option Addr) (LA c0 L : Nat) (ml : List Nd) (w : World)
    (HF1 : Hid (∀ w1, Below w.heap.size w w1 -> Calls Tryz.prog 14 #[.agg #[.slice A0 LA c0]] w1 fun e w' => ∃ A c ps, e = .returned (.agg #[.slice A L c]) /\ ps.map Prod.fst = ml /\ OwnN w1.heap.size w' (.slice A L c) ps /\ Below w1.heap.size w1 w'))
    (HW : Hid (∀ w1, Below w.heap.size w w1 -> Calls Tryz.prog 21 #[] w1 fun e w' => e = .returned (.bool true) /\ Below w1.heap.size w1 w'))
include HF1 HW
theorem back_bad (M : Int) (hM : (M != 0) = true)
    (HP : Hid (∀ (w1 : World) (A : Option Addr) (c : Nat), Below w.heap.size w w1 -> Nodes w1.heap.size w1 (.slice A L c) ml -> Calls Tryz.prog 15 #[.agg #[.slice A L c]] w1 fun e w' => e = .returned (.tuple #[.string ⟨#[]⟩, .int .i64 M]) /\ Below w1.heap.size w1 w'))
    (HR : Hid (∀ (w1 : World) (A : Option Addr) (c : Nat), Nodes w1.heap.size w1 (.slice A L c) ml -> Calls Tryz.prog 22 #[.agg #[.slice A L c]] w1 fun e w' => e = .returned (.int .i64 M) /\ Below w1.heap.size w1 w')) :
    Calls Tryz.prog 6 #[.agg #[.slice A0 LA c0]] w fun e w' => e = .returned (.bool true) /\ Below w.heap.size w w' := by
  have HB0 : Hid (Below w.heap.size w (w.alloc (.cells #[.slice A0 LA c0] 25))) := Lib.hid ((Below.refl _ w).alloc (Nat.le_refl _) _)
  have X0 : Hid ((w.alloc (.cells #[.slice A0 LA c0] 25)).heap[w.heap.size]? = some (.cells #[.slice A0 LA c0] 25 (0, 0))) := Lib.hid (newAt rfl)
  go_enter Tryz.func6, Tryz.ntmps6
  go_wp2_with (first | (go_at_call 22; refine (HR.out _ _ _ S3.out.nodes).mono ?_; rintro e w4 ⟨rfl, hb⟩; have S4 := Lib.hid (S3.out.next hb); clear hb) | (go_at_call 15; refine (HP.out _ _ _ S2.out.2.2 S2.out.nodes).mono ?_; rintro e w3 ⟨rfl, hb⟩; have S3 := Lib.hid (S2.out.next hb); have c3 := S3.out.c; clear hb) | (go_at_call 14; refine (HF1.out _ HB1.out).mono ?_; rintro e w2 ⟨A2, k2, ps2, rfl, hps2, hown2, hb2⟩; have S2 := Lib.hid (ASt.put (m := 1) (by decide) (below_next HB1.out hb2 (Nat.le_refl _)) (ownN_low hown2 HS1.out) hps2 (blk_next X1.out hb2) rfl); have c2 := S2.out.c; have x2 := blk_next X1.out hb2; have f2 := Blk_frozen x2 0; have d2 : w2.cell? ⟨w.heap.size, 0, none⟩ = some (.slice A0 LA c0) := (Blk_cell x2 0).trans rfl; clear x2 hb2 hown2 hps2) | (go_at_call 21; refine (HW.out _ HB0.out).mono ?_; rintro e w1 ⟨rfl, hb1⟩; have X1 := Lib.hid (blk_next X0.out hb1); have c1 : w1.cell? ⟨w.heap.size, 0, none⟩ = some (.slice A0 LA c0) := (Blk_cell X1.out 0).trans rfl; have HB1 := Lib.hid (below_next HB0.out hb1 (Nat.le_refl _)); have HS1 : Hid (w.heap.size + 1 <= w1.heap.size) := Lib.hid (by have := hb1.size; simp at this; omega); clear hb1))
  go_ret
  exact ⟨rfl, S4.out.2.2⟩
theorem back_good (n : Nat) (t : List Nd) (s : ByteArray) (hz : (s.size : Int) <= 1048576)
    (HP : Hid (∀ (w1 : World) (A : Option Addr) (c : Nat), Below w.heap.size w w1 -> Nodes w1.heap.size w1 (.slice A L c) ml -> Calls Tryz.prog 15 #[.agg #[.slice A L c]] w1 fun e w' => e = .returned (.tuple #[.string s, .int .i64 0]) /\ Below w1.heap.size w1 w'))
    (HX : Hid (∀ w1 : World, Below w.heap.size w w1 -> Calls Tryz.prog 8 #[.string s] w1 fun e w' => ∃ A c, e = .returned (.tuple #[.agg #[.slice A n c], .int .i64 0, .int .i64 0]) /\ Nodes w'.heap.size w' (.slice A n c) t /\ Below w1.heap.size w1 w'))
    (HT : Hid (∀ (w1 : World) (A : Option Addr) (c : Nat), Below w.heap.size w w1 -> Nodes w1.heap.size w1 (.slice A n c) t -> Calls Tryz.prog 15 #[.agg #[.slice A n c]] w1 fun e w' => e = .returned (.tuple #[.string s, .int .i64 0]) /\ Below w1.heap.size w1 w'))
    (HS : Hid (∀ (w1 : World) (v u : Value), Nodes w1.heap.size w1 v t -> Nodes w1.heap.size w1 u ml -> Calls Tryz.prog 23 #[.agg #[v], .agg #[u]] w1 fun e w' => e = .returned (.bool true) /\ Below w1.heap.size w1 w')) :
    Calls Tryz.prog 6 #[.agg #[.slice A0 LA c0]] w fun e w' => e = .returned (.bool true) /\ Below w.heap.size w w' := by
  have HB0 : Hid (Below w.heap.size w (w.alloc (.cells #[.slice A0 LA c0] 25))) := Lib.hid ((Below.refl _ w).alloc (Nat.le_refl _) _)
  have X0 : Hid ((w.alloc (.cells #[.slice A0 LA c0] 25)).heap[w.heap.size]? = some (.cells #[.slice A0 LA c0] 25 (0, 0))) := Lib.hid (newAt rfl)
  have hd : decide ((1048576 : Int) < (s.size : Int)) = false := by simpa using hz
  go_enter Tryz.func6, Tryz.ntmps6
  go_wp2_with (first | (go_at_call 23; refine (HS.out _ _ _ XB6.out.2 S6.out.nodes).mono ?_; rintro e w7 ⟨rfl, hb⟩; have S7 := Lib.hid (S6.out.next hb); clear hb) | (go_at_call 15; have _tag := XB5.out; clear _tag; refine (HT.out _ _ _ S5.out.2.2 XB5.out.2).mono ?_; rintro e w6 ⟨rfl, hb⟩; have S6 := Lib.hid (S5.out.next hb); have XB6 := Lib.hid (XB5.out.next hb); have c6 := S6.out.c; have b6 := XB6.out.c; clear hb) | (go_at_call 8; refine (HX.out _ S3.out.2.2).mono ?_; rintro e w4 ⟨A4, k4, rfl, hn, hb⟩; have hal := (Below.refl w4.heap.size w4).alloc (Nat.le_refl _) (.cells #[.slice A4 n k4] 25); have S5 := Lib.hid ((S3.out.next hb).next hal); have XB5 := Lib.hid (Bx.new hn); have b5 := XB5.out.c; clear hb hn hal) | (go_at_call 15; refine (HP.out _ _ _ S2.out.2.2 S2.out.nodes).mono ?_; rintro e w3 ⟨rfl, hb⟩; have S3 := Lib.hid (S2.out.next hb); clear hb) | (go_at_call 14; refine (HF1.out _ HB1.out).mono ?_; rintro e w2 ⟨A2, k2, ps2, rfl, hps2, hown2, hb2⟩; have S2 := Lib.hid (ASt.put (m := 1) (by decide) (below_next HB1.out hb2 (Nat.le_refl _)) (ownN_low hown2 HS1.out) hps2 (blk_next X1.out hb2) rfl); have c2 := S2.out.c; have x2 := blk_next X1.out hb2; have f2 := Blk_frozen x2 0; have d2 : w2.cell? ⟨w.heap.size, 0, none⟩ = some (.slice A0 LA c0) := (Blk_cell x2 0).trans rfl; clear x2 hb2 hown2 hps2) | (go_at_call 21; refine (HW.out _ HB0.out).mono ?_; rintro e w1 ⟨rfl, hb1⟩; have X1 := Lib.hid (blk_next X0.out hb1); have c1 : w1.cell? ⟨w.heap.size, 0, none⟩ = some (.slice A0 LA c0) := (Blk_cell X1.out 0).trans rfl; have HB1 := Lib.hid (below_next HB0.out hb1 (Nat.le_refl _)); have HS1 : Hid (w.heap.size + 1 <= w1.heap.size) := Lib.hid (by have := hb1.size; simp at this; omega); clear hb1))
  go_ret
  exact ⟨rfl, S7.out.2.2⟩
end
end Go.Proofs.YtjakeidbajkdcaaGreatDoor.S
