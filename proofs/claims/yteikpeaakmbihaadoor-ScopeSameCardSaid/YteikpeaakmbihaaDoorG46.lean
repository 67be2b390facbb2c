/- Joined by program: SSameM. -/
import Derived.Test.YteikpeaakmbihaaDoorG45
import Derived.Test.YteikpeaakmbihaaDoorG44
/- What is the same is alike; what is alike has the same free names. -/
namespace Go.Proofs.YteikpeaakmbihaaDoor.T
theorem ln_iff {l m : List Nd} : ln l m = true ↔ l.length = m.length ∧ ∀ (j : Nat) (x y : Nd), l[j]? = some x → m[j]? = some y → sn x y = true := by
  unfold ln
  rw [Bool.and_eq_true]
  constructor
  · rintro ⟨h1, h2⟩
    refine ⟨by simpa using h1, fun j x y hx hy => ?_⟩
    cases hs : sn x y with
    | true => rfl
    | false => rw [lns_no hx hy hs] at h2; cases h2
  · rintro ⟨h1, h2⟩
    exact ⟨by simpa using h1, lns_yes h2 h1⟩
theorem lf_iff {l m : List Fld} : lf l m = true ↔ l.length = m.length ∧ ∀ (j : Nat) (f g : Fld), l[j]? = some f → m[j]? = some g → fe f g = true := by
  unfold lf
  rw [Bool.and_eq_true]
  constructor
  · rintro ⟨h1, h2⟩
    refine ⟨by simpa using h1, fun j x y hx hy => ?_⟩
    cases hs : fe x y with
    | true => rfl
    | false => rw [les_no hx hy hs] at h2; cases h2
  · rintro ⟨h1, h2⟩
    exact ⟨by simpa using h1, les_yes h2 h1⟩
theorem sn_iff {x y : Nd} : sn x y = true ↔ x.kind = y.kind ∧ x.a = y.a ∧ x.b = y.b ∧ x.c = y.c ∧ x.n = y.n ∧ x.nm.toList = y.nm.toList ∧ x.s.toList = y.s.toList ∧ lf x.l y.l = true := by
  simp [sn]
theorem fe_iff {f g : Fld} : fe f g = true ↔ f.nm.toList = g.nm.toList ∧ f.vr.toList = g.vr.toList ∧ f.pl = g.pl := by simp [fe]
theorem lf_pl {l m : List Fld} (h : lf l m = true) : l.map Fld.pl = m.map Fld.pl := by
  obtain ⟨h1, h2⟩ := lf_iff.1 h
  refine List.ext_getElem? fun j => ?_
  rw [List.getElem?_map, List.getElem?_map]
  cases hf : l[j]? with
  | none => rw [List.getElem?_eq_none (by have := List.getElem?_eq_none_iff.1 hf; omega)]
  | some f =>
    obtain ⟨g, hg⟩ : ∃ g, m[j]? = some g := ⟨_, List.getElem?_eq_getElem (by have := (List.getElem?_eq_some_iff.1 hf).1; omega)⟩
    rw [hg]
    have := (fe_iff.1 (h2 j f g hf hg)).2.2
    simp [this]
theorem sn_kids {x y : Nd} (h : sn x y = true) : kids x = kids y := by
  obtain ⟨h1, h2, h3, h4, _, _, _, h8⟩ := sn_iff.1 h
  unfold kids kids0 many
  rw [h1, h2, h3, h4, lf_pl h8]
theorem sn_vr {x y : Nd} (h : sn x y = true) (k : Nat) : (vrAt x k).toList = (vrAt y k).toList := by
  obtain ⟨h1, h2⟩ := lf_iff.1 (sn_iff.1 h).2.2.2.2.2.2.2
  unfold vrAt
  cases hf : x.l[k]? with
  | none => rw [List.getElem?_eq_none (by have := List.getElem?_eq_none_iff.1 hf; omega)]
  | some f =>
    obtain ⟨g, hg⟩ : ∃ g, y.l[k]? = some g := ⟨_, List.getElem?_eq_getElem (by have := (List.getElem?_eq_some_iff.1 hf).1; omega)⟩
    rw [hg]
    exact (fe_iff.1 (h2 k f g hf hg)).2.1
/-- Reaches that are told alike. -/
def REq (e f : List Rch) : Prop := e.map (fun r => (r.nm.toList, r.nd, r.br)) = f.map fun r => (r.nm.toList, r.nd, r.br)
theorem look_eq : ∀ {e f : List Rch} {s t : ByteArray}, REq e f → s.toList = t.toList → look e s = look f t
  | [], [], _, _, _, _ => rfl
  | [], _ :: _, _, _, h, _ => by simp [REq] at h
  | _ :: _, [], _, _, h, _ => by simp [REq] at h
  | r :: e, q :: f, s, t, h, hs => by
    simp only [REq, List.map_cons, List.cons.injEq, Prod.mk.injEq] at h
    obtain ⟨⟨h1, h2, h3⟩, h4⟩ := h
    rw [look, look, h1, hs, h2, h3, look_eq (e := e) (f := f) h4 hs]
theorem ofK_eq {x y : Nd} (h : sn x y = true) (i k : Nat) {e f : List Rch} (he : REq e f) : REq (ofK x i k e) (ofK y i k f) := by
  obtain ⟨h1, _, _, _, _, h6, _⟩ := sn_iff.1 h
  have hv := sn_vr h (k - 1)
  unfold ofK
  rw [h1]
  unfold REq at he ⊢
  split
  · simp [h6, he]
  · split
    · split
      · simp [h6, he]
      · exact he
    · split
      · split
        · simp [hv, he]
        · exact he
      · exact he
theorem dn_same {l m : List Nd} (hl : ∀ (j : Nat) (x y : Nd), l[j]? = some x → m[j]? = some y → sn x y = true) (hlen : l.length = m.length) : ∀ (i : Nat) (e f : List Rch) (xs : List (Int × Int)), REq e f → dn l i e xs = dn m i f xs := by
  intro i
  induction i using Nat.strongRecOn with
  | ind i ih =>
    intro e f xs he
    rw [dn, dn]
    cases hx : l[i]? with
    | none => rw [List.getElem?_eq_none (by have := List.getElem?_eq_none_iff.1 hx; omega)]
    | some x =>
      obtain ⟨y, hy⟩ : ∃ y, m[i]? = some y := ⟨_, List.getElem?_eq_getElem (by have := (List.getElem?_eq_some_iff.1 hx).1; omega)⟩
      have hs := hl i x y hx hy
      rw [hy]
      simp only
      have h1 := (sn_iff.1 hs).1
      have h6 := (sn_iff.1 hs).2.2.2.2.2.1
      rw [sn_kids hs, look_eq he h6, h1]
      generalize (if y.kind = 4 then xs.set i (look f y.nm) else xs) = ys
      generalize (kids y).zipIdx = ps
      induction ps generalizing ys with
      | nil => rfl
      | cons q ps ihp =>
        rw [List.foldl_cons, List.foldl_cons]
        have e1 : (if _h : q.1.toNat < i then dn l q.1.toNat (ofK x i q.2 e) ys else ys) = (if _h : q.1.toNat < i then dn m q.1.toNat (ofK y i q.2 f) ys else ys) := by
          split
          · rename_i h; exact ih _ h _ _ _ (ofK_eq hs i q.2 he)
          · rfl
        rw [e1]
        exact ihp _
theorem bdp_same {l m : List Nd} (h : ln l m = true) : bdp l = bdp m := by
  obtain ⟨h1, h2⟩ := ln_iff.1 h
  rw [bdp, bdp, h1]
  exact dn_same h2 h1 _ _ _ _ rfl
theorem sn_bl {x y : Nd} (p : Int × Int) (h : sn x y = true) : sn (bl x p) (bl y p) = true := by
  obtain ⟨h1, h2, h3, h4, h5, h6, h7, h8⟩ := sn_iff.1 h
  unfold bl
  rw [h1]
  split
  · exact sn_iff.2 ⟨rfl, h2, h3, h4, h5, rfl, h7, h8⟩
  · split
    · refine sn_iff.2 ⟨rfl, h2, h3, h4, h5, h6, h7, ?_⟩
      obtain ⟨l1, l2⟩ := lf_iff.1 h8
      refine lf_iff.2 ⟨by simpa using l1, fun j f g hf hg => ?_⟩
      rw [List.getElem?_map] at hf hg
      obtain ⟨f', hf', rfl⟩ := Option.map_eq_some_iff.1 hf
      obtain ⟨g', hg', rfl⟩ := Option.map_eq_some_iff.1 hg
      obtain ⟨e1, _, e3⟩ := fe_iff.1 (l2 j f' g' hf' hg')
      exact fe_iff.2 ⟨e1, rfl, e3⟩
    · split
      · exact sn_iff.2 ⟨rfl, h2, h3, h4, h5, rfl, h7, h8⟩
      · exact h
theorem nx_nrm {l : List Nd} (h : may l = 0) : may (nx l) = 0 ∧ nrm (nx l) = nx l ∧ nx l = bls (nrm l) (bdp (nrm l)) ∧ bx l = bdp (nrm l) := by
  obtain ⟨m1, m2⟩ := may_cp h
  have e1 : nx l = bls (nrm l) (bdp (nrm l)) := by rw [nx, if_pos h]
  rw [e1]
  exact ⟨bls_may (bdp_len _) m1, nrm_bls (bdp_len _) m1 m2 (nrm_post h), rfl, by rw [bx, if_pos h]⟩
/-- What is the same is alike. -/
theorem alp_of_same {a b : List Nd} (h : tsm a b = true) : alp a b = true := by
  simp only [tsm, Bool.and_eq_true, decide_eq_true_eq] at h
  obtain ⟨ha, hb, hl⟩ := h
  obtain ⟨a1, a2, a3, a4⟩ := nx_nrm ha
  obtain ⟨b1, b2, b3, b4⟩ := nx_nrm hb
  have hB := bdp_same hl
  rw [alp, tsm, a1, b1, a2, b2, a4, b4, hB]
  simp only [beq_self_eq_true, decide_true, Bool.true_and]
  rw [a3, b3, hB]
  obtain ⟨l1, l2⟩ := ln_iff.1 hl
  have h1 : (bdp (nrm b)).length = (nrm a).length := by rw [bdp_len, l1]
  refine ln_iff.2 ⟨by rw [bls_len h1, bls_len (bdp_len _), l1], fun j x y hx hy => ?_⟩
  obtain ⟨x', p, hx', hp, rfl⟩ := (bls_at h1).1 hx
  obtain ⟨y', p', hy', hp', rfl⟩ := (bls_at (bdp_len _)).1 hy
  rw [hp] at hp'
  obtain rfl := Option.some.inj hp'
  exact sn_bl p (l2 j x' y' hx' hy')
/-- The parents there are. -/
theorem upar_ex {l : List Nd} (hk : kidsOk l) (ho : onceOk l) (h0 : 0 < l.length) : ∃ U, UPar l U := by
  have key : ∀ i, i ≤ l.length → ∃ U : List Int, UTo l i 0 U := by
    intro i
    induction i with
    | zero => intro _; exact ⟨List.replicate l.length 0, by simp, fun i' x k hi' => by omega, fun x k _ hkk => by simp at hkk⟩
    | succ i ih =>
      intro hi
      obtain ⟨U, hU⟩ := ih (by omega)
      obtain ⟨x, hx⟩ : ∃ x, l[i]? = some x := ⟨_, List.getElem?_eq_getElem (by omega)⟩
      have step : ∀ j, j ≤ (kids x).length → ∃ U : List Int, UTo l i j U := by
        intro j
        induction j with
        | zero => intro _; exact ⟨U, hU⟩
        | succ j ihj =>
          intro hj
          obtain ⟨U', hU'⟩ := ihj (by omega)
          obtain ⟨z, hz⟩ : ∃ z, (kids x)[j]? = some z := ⟨_, List.getElem?_eq_getElem (by omega)⟩
          have hz0 := hk i x hx z (List.mem_of_getElem? hz)
          obtain ⟨m, rfl⟩ : ∃ m : Nat, z = (m : Int) := ⟨z.toNat, by omega⟩
          exact ⟨_, hU'.step hk ho.1 hx hz⟩
      obtain ⟨U', hU'⟩ := step _ (Nat.le_refl _)
      exact ⟨U', hU'.up hx⟩
  obtain ⟨U, hU⟩ := key l.length (Nat.le_refl _)
  exact ⟨_, hU.fin hk h0⟩
theorem zip_mem {l : List Nd} {p : Int} : p ∈ fpl l ↔ 0 ≤ p ∧ ∃ x q, l[p.toNat]? = some x ∧ (bdp l)[p.toNat]? = some q ∧ isF x q = true := by
  constructor
  · intro h
    obtain ⟨h1, z, hz, hf⟩ := fpz_mem _ p h
    rw [List.getElem?_zip_eq_some] at hz
    exact ⟨h1, z.1, z.2, hz.1, hz.2, hf⟩
  · rintro ⟨h1, x, q, hx, hq, hf⟩
    rw [fpl, fpz, List.mem_flatMap]
    refine ⟨((x, q), p.toNat), List.mem_zipIdx_iff_getElem?.2 (zip_at hx hq), ?_⟩
    rw [if_pos hf]
    simp; omega
/-- The free names of a tree, by its nodes, by what stands around. -/
theorem names_fN {l : List Nd} (hm : may l = 0) (b : List UInt8) : (∃ p ∈ fpl l, (nmAt l p).toList = b) ↔ b ∈ fN l (l.length - 1) [] := by
  obtain ⟨h1, _⟩ := may_big hm
  have hf := (may_zero hm).2.1
  have hk := hf.2.1
  have ho := hf.2.2.1
  obtain ⟨U, hU⟩ := upar_ex hk ho (by omega)
  have hb : bdp l = bds l U := dn_bds (by omega) hk ho hU.2.1 hU.2.2
  have hfn := fN_mem hk ho.1 hU.2.1 (l.length - 1) (by omega) [] (fun s => by rw [upw_root hU.2.2]; rfl) (by simp) b
  rw [List.map_nil] at hfn
  rw [hfn]
  constructor
  · rintro ⟨p, hp, rfl⟩
    obtain ⟨h0, x, q, hx, hq, hF⟩ := zip_mem.1 hp
    have hpl := (List.getElem?_eq_some_iff.1 hx).1
    refine ⟨p.toNat, post_root hk ho _ _ (Nat.le_refl _) hpl, x, hx, ?_, by rw [nmAt, hx]; rfl, ?_⟩
    · simp only [isF, Bool.and_eq_true] at hF; simpa using hF.1
    · simp only [isF, Bool.and_eq_true, beq_iff_eq] at hF
      rw [hb, bds_at hx, if_pos hF.1] at hq
      rw [Option.some.inj hq]
      exact Prod.ext hF.2.1 hF.2.2
  · rintro ⟨m, hmp, y, hy, h4, rfl, hup⟩
    refine ⟨(m : Int), zip_mem.2 ⟨by omega, y, (-1, -1), by rw [Int.toNat_natCast]; exact hy, ?_, by simp [isF, h4]⟩, by rw [nmAt, Int.toNat_natCast, hy]; rfl⟩
    rw [Int.toNat_natCast, hb, bds_at hy, if_pos h4, hup]
/-- In order, the same names are free. -/
theorem names_nrm {l : List Nd} (hm : may l = 0) (b : List UInt8) : (∃ p ∈ fpl l, (nmAt l p).toList = b) ↔ ∃ p ∈ fpl (nrm l), (nmAt (nrm l) p).toList = b := by
  obtain ⟨m1, _⟩ := may_cp hm
  obtain ⟨h1, _⟩ := may_big hm
  have hk := (may_zero hm).2.1.2.1
  rw [names_fN hm, names_fN m1]
  have e : nrm l = cp l (l.length - 1) [] := by rw [nrm, if_pos hm]
  have := fN_cp hk (l.length - 1) (by omega) [] [] [] (fun i x hx => by simp at hx)
  rw [List.append_nil, ← e] at this
  rw [this]
theorem alp_may {a b : List Nd} (h : alp a b = true) : may a = 0 ∧ may b = 0 := by
  simp only [alp, tsm, Bool.and_eq_true, decide_eq_true_eq] at h
  obtain ⟨_, h1, h2, _⟩ := h
  have key : ∀ l, may (nx l) = 0 → may l = 0 := fun l hl => by
    by_cases hm : may l = 0
    · exact hm
    · rw [nx, if_neg hm, may_nil] at hl; cases hl
  exact ⟨key a h1, key b h2⟩
theorem alp_half {N M : List Nd} (hB : bdp N = bdp M) (hl : ln (bls N (bdp N)) (bls M (bdp M)) = true) (b : List UInt8) (h : ∃ p ∈ fpl N, (nmAt N p).toList = b) : ∃ p ∈ fpl M, (nmAt M p).toList = b := by
  obtain ⟨p, hp, rfl⟩ := h
  obtain ⟨h0, x, q, hx, hq, hF⟩ := zip_mem.1 hp
  obtain ⟨l1, l2⟩ := ln_iff.1 hl
  rw [bls_len (bdp_len _), bls_len (bdp_len _)] at l1
  obtain ⟨y, hy⟩ : ∃ y, M[p.toNat]? = some y := ⟨_, List.getElem?_eq_getElem (by have := (List.getElem?_eq_some_iff.1 hx).1; omega)⟩
  simp only [isF, Bool.and_eq_true, beq_iff_eq] at hF
  obtain ⟨hx4, hq1, hq2⟩ := hF
  have hqq : q = (-1, -1) := Prod.ext hq1 hq2
  have hq' : (bdp M)[p.toNat]? = some q := by rw [← hB]; exact hq
  have hs := l2 p.toNat _ _ ((bls_at (bdp_len _)).2 ⟨x, q, hx, hq, rfl⟩) ((bls_at (bdp_len _)).2 ⟨y, q, hy, hq', rfl⟩)
  obtain ⟨k1, _, _, _, _, k6, _⟩ := sn_iff.1 hs
  rw [bl_kind, bl_kind] at k1
  have free : ∀ z : Nd, z.kind = 4 → bl z q = z := fun z hz => by rw [bl, if_neg (by omega), if_neg (by omega), if_neg (fun h => h.2 hqq)]
  have hy4 : y.kind = 4 := by omega
  rw [free x hx4, free y hy4] at k6
  exact ⟨p, zip_mem.2 ⟨h0, y, q, hy, hq', by simp [isF, hy4, hqq]⟩, by rw [nmAt, nmAt, hx, hy]; exact k6.symm⟩
/-- What is alike has the same free names. -/
theorem alp_names {a b : List Nd} (h : alp a b = true) (s : List UInt8) : (∃ p ∈ fpl a, (nmAt a p).toList = s) ↔ ∃ p ∈ fpl b, (nmAt b p).toList = s := by
  obtain ⟨ha, hb⟩ := alp_may h
  obtain ⟨a1, a2, a3, a4⟩ := nx_nrm ha
  obtain ⟨b1, b2, b3, b4⟩ := nx_nrm hb
  simp only [alp, tsm, Bool.and_eq_true, beq_iff_eq] at h
  obtain ⟨hB, _, _, hl⟩ := h
  rw [a2, b2, a3, b3] at hl
  rw [a4, b4] at hB
  rw [names_nrm ha, names_nrm hb]
  refine ⟨alp_half hB hl s, alp_half hB.symm ?_ s⟩
  obtain ⟨l1, l2⟩ := ln_iff.1 hl
  refine ln_iff.2 ⟨l1.symm, fun j x y hx hy => ?_⟩
  obtain ⟨e1, e2, e3, e4, e5, e6, e7, e8⟩ := sn_iff.1 (l2 j y x hy hx)
  obtain ⟨f1, f2⟩ := lf_iff.1 e8
  refine sn_iff.2 ⟨e1.symm, e2.symm, e3.symm, e4.symm, e5.symm, e6.symm, e7.symm, lf_iff.2 ⟨f1.symm, fun j f g hf hg => ?_⟩⟩
  obtain ⟨g1, g2, g3⟩ := fe_iff.1 (f2 j g f hg hf)
  exact fe_iff.2 ⟨g1.symm, g2.symm, g3.symm⟩
theorem frs_mem (l : List Nd) (P : List Int) (s : List UInt8) : (∃ t ∈ frs l P, t.toList = s) ↔ ∃ p ∈ P, (nmAt l p).toList = s := by
  induction P using snocInd with
  | h0 => simp [frs]
  | h1 P p ih =>
    rw [frs_snoc, addN]
    by_cases hi : inN (nmAt l p) (frs l P) = true
    · rw [if_pos hi, ih]
      constructor
      · rintro ⟨q, hq, h⟩; exact ⟨q, by simp [hq], h⟩
      · rintro ⟨q, hq, h⟩
        rcases List.mem_append.1 hq with hq | hq
        · exact ⟨q, hq, h⟩
        · obtain rfl : q = p := by simpa using hq
          obtain ⟨t, ht, hts⟩ := List.any_eq_true.1 hi
          exact ih.1 ⟨t, ht, by rw [← h]; simpa using hts⟩
    · rw [if_neg hi]
      constructor
      · rintro ⟨t, ht, h⟩
        rcases List.mem_append.1 ht with ht | ht
        · obtain ⟨q, hq, h⟩ := ih.1 ⟨t, ht, h⟩; exact ⟨q, by simp [hq], h⟩
        · obtain rfl : t = nmAt l p := by simpa using ht
          exact ⟨p, by simp, h⟩
      · rintro ⟨q, hq, h⟩
        rcases List.mem_append.1 hq with hq | hq
        · obtain ⟨t, ht, h⟩ := ih.2 ⟨q, hq, h⟩; exact ⟨t, by simp [ht], h⟩
        · obtain rfl : q = p := by simpa using hq
          exact ⟨nmAt l q, by simp, h⟩
theorem frs_nodup (l : List Nd) (P : List Int) : ((frs l P).map ByteArray.toList).Nodup := by
  induction P using snocInd with
  | h0 => simp [frs]
  | h1 P p ih =>
    rw [frs_snoc, addN]
    by_cases hi : inN (nmAt l p) (frs l P) = true
    · rw [if_pos hi]; exact ih
    · rw [if_neg hi, List.map_append, List.nodup_append]
      refine ⟨ih, by simp, fun a ha b hb e => ?_⟩
      obtain rfl : b = (nmAt l p).toList := by simpa using hb
      subst e
      obtain ⟨t, ht, hts⟩ := List.mem_map.1 ha
      exact hi (List.any_eq_true.2 ⟨t, ht, by simp [hts]⟩)
/-- As many free names, and the same. -/
theorem alp_free {a b : List Nd} (h : alp a b = true) : (frs a (fpl a)).length = (frs b (fpl b)).length ∧ ∀ s ∈ frs a (fpl a), inN s (frs b (fpl b)) = true := by
  have hset : ∀ s, s ∈ (frs a (fpl a)).map ByteArray.toList ↔ s ∈ (frs b (fpl b)).map ByteArray.toList := fun s => by
    rw [List.mem_map, List.mem_map, frs_mem, frs_mem]
    exact alp_names h s
  refine ⟨?_, fun s hs => ?_⟩
  · have hp := (List.perm_ext_iff_of_nodup (frs_nodup a (fpl a)) (frs_nodup b (fpl b))).2 hset
    have := hp.length_eq
    simpa using this
  · obtain ⟨t, ht, hts⟩ := List.mem_map.1 ((hset s.toList).1 (List.mem_map.2 ⟨s, hs, rfl⟩))
    exact List.any_eq_true.2 ⟨t, ht, by simp [hts]⟩
end Go.Proofs.YteikpeaakmbihaaDoor.T
