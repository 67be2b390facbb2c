/- Joined by program: SMath. -/
import Derived.Test.YteikpeaakmbihaaDoorG00
/- Scope: reaches and binders, the plain mathematics. -/
namespace Go.Proofs.YteikpeaakmbihaaDoor.T
/-- The reach of one binder's name. -/
structure Rch where
  nm : ByteArray
  nd : Int
  br : Int
/-- The innermost one of a name. -/
def look : List Rch → ByteArray → Int × Int
  | [], _ => (-1, -1)
  | r :: rs, s => if (r.nm.toList == s.toList) = true then (r.nd, r.br) else look rs s
def vrAt (x : Nd) (k : Nat) : ByteArray := (x.l[k]?.map Fld.vr).getD ⟨#[]⟩
/-- Where the k-th child stands. -/
def ofK (x : Nd) (i k : Nat) (env : List Rch) : List Rch :=
  if x.kind = 5 ∨ x.kind = 8 then ⟨x.nm, i, -1⟩ :: env
  else if x.kind = 7 then (if k = 1 then ⟨x.nm, i, -1⟩ :: env else env)
  else if x.kind = 14 then (if 0 < k then ⟨vrAt x (k - 1), i, (k : Int) - 1⟩ :: env else env)
  else env
/-- Binders below a node, laid into a row. -/
def dn (l : List Nd) (i : Nat) (env : List Rch) (xs : List (Int × Int)) : List (Int × Int) :=
  match l[i]? with
  | none => xs
  | some x => (kids x).zipIdx.foldl (fun xs (p : Int × Nat) => if _h : p.1.toNat < i then dn l p.1.toNat (ofK x i p.2 env) xs else xs) (if x.kind = 4 then xs.set i (look env x.nm) else xs)
termination_by i
def dns (l : List Nd) (x : Nd) (i : Nat) (env : List Rch) (ps : List (Int × Nat)) (xs : List (Int × Int)) : List (Int × Int) :=
  ps.foldl (fun xs p => dn l p.1.toNat (ofK x i p.2 env) xs) xs
theorem dns_snoc (l : List Nd) (x : Nd) (i : Nat) (env : List Rch) (ps : List (Int × Nat)) (p : Int × Nat) (xs : List (Int × Int)) : dns l x i env (ps ++ [p]) xs = dn l p.1.toNat (ofK x i p.2 env) (dns l x i env ps xs) := by simp [dns]
theorem foldl_same {α β : Type} {f g : β → α → β} : ∀ (l : List α) (b : β), (∀ a ∈ l, ∀ b, f b a = g b a) → l.foldl f b = l.foldl g b
  | [], _, _ => rfl
  | a :: l, b, h => by rw [List.foldl_cons, List.foldl_cons, h a (by simp)]; exact foldl_same l _ fun a' ha b' => h a' (by simp [ha]) b'
theorem dn_eq {l : List Nd} {i : Nat} {x : Nd} (h : l[i]? = some x) (ha : ahead i x) (env : List Rch) (xs : List (Int × Int)) : dn l i env xs = dns l x i env (kids x).zipIdx (if x.kind = 4 then xs.set i (look env x.nm) else xs) := by
  rw [dn, h]
  refine foldl_same _ _ fun p hp b => ?_
  have hm : p.1 ∈ kids x := by
    have := List.mem_zipIdx hp
    exact List.mem_of_getElem (this.2.2.symm)
  have := ha _ hm
  rw [dif_pos (by omega)]
/-- Does a node bind a name for a child? which branch it is. -/
def bnd (x : Nd) (c : Int) (s : ByteArray) : Int :=
  if (x.nm.toList == s.toList) = true ∧ (x.kind = 5 ∨ x.kind = 7 ∧ c = x.b ∨ x.kind = 8) then -1
  else if x.kind = 14 then (match x.l.findIdx? (fun f => f.pl == c && f.vr.toList == s.toList) with | some k => (k : Int) | none => -2) else -2
theorem look_ofK {x : Nd} (hn : (kids x).Nodup) {i j : Nat} {c : Int} (hc : (kids x)[j]? = some c) (env : List Rch) (s : ByteArray) :
    look (ofK x i j env) s = if -2 < bnd x c s then ((i : Int), bnd x c s) else look env s := by
  by_cases h5 : x.kind = 5 ∨ x.kind = 8
  · rw [ofK, if_pos h5]
    have h14 : x.kind ≠ 14 := by omega
    by_cases hs : (x.nm.toList == s.toList) = true
    · have e : bnd x c s = -1 := by rw [bnd, if_pos ⟨hs, by omega⟩]
      rw [e, look, if_pos hs, if_pos (by omega)]
    · have e : bnd x c s = -2 := by rw [bnd, if_neg (fun h => hs h.1), if_neg h14]
      rw [e, look, if_neg hs, if_neg (by omega)]
  · by_cases h7 : x.kind = 7
    · have hk : kids x = [x.a, x.b] := by simp [kids, kids0, many, h7]
      rw [hk] at hc hn
      rw [ofK, if_neg h5, if_pos h7]
      match j, hc with
      | 0, hc =>
        obtain rfl : x.a = c := by simpa using hc
        have hab : x.a ≠ x.b := by intro h; rw [h] at hn; simp at hn
        have e : bnd x x.a s = -2 := by rw [bnd, if_neg (by rintro ⟨_, h | h | h⟩ <;> omega), if_neg (by omega)]
        rw [e, if_neg (by omega), if_neg (by omega)]
      | 1, hc =>
        obtain rfl : x.b = c := by simpa using hc
        rw [if_pos rfl]
        by_cases hs : (x.nm.toList == s.toList) = true
        · have e : bnd x x.b s = -1 := by rw [bnd, if_pos ⟨hs, .inr (.inl ⟨h7, rfl⟩)⟩]
          rw [e, look, if_pos hs, if_pos (by omega)]
        · have e : bnd x x.b s = -2 := by rw [bnd, if_neg (fun h => hs h.1), if_neg (by omega)]
          rw [e, look, if_neg hs, if_neg (by omega)]
      | j + 2, hc => simp at hc
    · by_cases h14 : x.kind = 14
      · have hk : kids x = x.a :: x.l.map Fld.pl := by simp [kids, kids0, many, h14]
        rw [hk] at hc hn
        have hb : bnd x c s = (match x.l.findIdx? (fun f => f.pl == c && f.vr.toList == s.toList) with | some k => (k : Int) | none => -2) := by
          rw [bnd, if_neg (by rintro ⟨_, h | h | h⟩ <;> omega), if_pos h14]
        rw [ofK, if_neg h5, if_neg h7, if_pos h14]
        match j, hc with
        | 0, hc =>
          obtain rfl : x.a = c := by simpa using hc
          have e : x.l.findIdx? (fun f => f.pl == x.a && f.vr.toList == s.toList) = none := by
            rw [List.findIdx?_eq_none_iff]
            intro f hf
            have : f.pl ≠ x.a := fun h => (List.nodup_cons.1 hn).1 (List.mem_map.2 ⟨f, hf, h⟩)
            simp [this]
          rw [hb, e, if_neg (by omega), if_neg (by simp)]
        | m + 1, hc =>
          rw [List.getElem?_cons_succ, List.getElem?_map] at hc
          obtain ⟨f, hf, rfl⟩ := Option.map_eq_some_iff.1 hc
          have hv : vrAt x (m + 1 - 1) = f.vr := by simp [vrAt, hf]
          rw [if_pos (by omega), look, hv, hb]
          have huniq : ∀ (q : Nat) (g : Fld), x.l[q]? = some g → g.pl = f.pl → q = m := fun q g hg he => by
            have h1 := (List.nodup_cons.1 hn).2
            have hq := (List.getElem?_eq_some_iff.1 hg).1
            have hm := (List.getElem?_eq_some_iff.1 hf).1
            exact (List.getElem?_inj (l := x.l.map Fld.pl) (i := q) (j := m) (by simpa using hq) h1).1 (by rw [List.getElem?_map, List.getElem?_map, hg, hf]; simp [he])
          by_cases hs : (f.vr.toList == s.toList) = true
          · have e : x.l.findIdx? (fun g => g.pl == f.pl && g.vr.toList == s.toList) = some m := by
              rw [List.findIdx?_eq_some_iff_getElem]
              have hm := (List.getElem?_eq_some_iff.1 hf)
              obtain ⟨hm1, hm2⟩ := hm
              refine ⟨hm1, by rw [hm2, hs]; simp, fun q hq => ?_⟩
              have hq1 : q < x.l.length := by omega
              have : (x.l[q]).pl ≠ f.pl := fun h => by
                have := huniq q x.l[q] (List.getElem?_eq_getElem hq1) h
                omega
              simp [this]
            rw [e, if_pos hs, if_pos (by simp; omega)]
            simp
          · have e : x.l.findIdx? (fun g => g.pl == f.pl && g.vr.toList == s.toList) = none := by
              rw [List.findIdx?_eq_none_iff]
              intro g hg
              by_cases he : g.pl = f.pl
              · obtain ⟨q, hq⟩ := List.getElem?_of_mem hg
                obtain rfl := huniq q g hq he
                rw [hf] at hq
                obtain rfl := Option.some.inj hq
                have := eq_false_of_ne_true hs
                simp [this]
              · simp [he]
            rw [e, if_neg hs, if_neg (by simp)]
      · have e : bnd x c s = -2 := by rw [bnd, if_neg (by rintro ⟨_, h | h | h⟩ <;> omega), if_neg h14]
        rw [e, ofK, if_neg h5, if_neg h7, if_neg h14, if_neg (by omega)]
/-- Upwards, node by node. -/
def upw (l : List Nd) (U : List Int) (c : Nat) (s : ByteArray) : Int × Int :=
  if h : (c : Int) < U.getD c (-1) ∧ U.getD c (-1) < (l.length : Int) then
    (if -2 < bnd (l[(U.getD c (-1)).toNat]'(by omega)) c s then (U.getD c (-1), bnd (l[(U.getD c (-1)).toNat]'(by omega)) c s) else upw l U (U.getD c (-1)).toNat s)
  else (-1, -1)
termination_by l.length - c
decreasing_by omega
theorem upw_kid {l : List Nd} {U : List Int} {c i : Nat} {x : Nd} (hU : U[c]? = some (i : Int)) (hx : l[i]? = some x) (hc : c < i) (s : ByteArray) :
    upw l U c s = if -2 < bnd x c s then ((i : Int), bnd x c s) else upw l U i s := by
  have e : U.getD c (-1) = (i : Int) := by rw [List.getD_eq_getElem?_getD, hU]; rfl
  obtain ⟨h1, h2⟩ := List.getElem?_eq_some_iff.1 hx
  rw [upw]
  simp only [e, Int.toNat_natCast, h2]
  rw [dif_pos (by omega)]
theorem upw_root {l : List Nd} {U : List Int} {c : Nat} (hU : U[c]? = some (-1)) (s : ByteArray) : upw l U c s = (-1, -1) := by
  have e : U.getD c (-1) = -1 := by rw [List.getD_eq_getElem?_getD, hU]; rfl
  rw [upw, dif_neg (by rw [e]; omega)]
/-- A node's binder. -/
def bv (l : List Nd) (U : List Int) (m : Nat) : Option (Int × Int) := l[m]?.bind fun y => if y.kind = 4 then some (upw l U m y.nm) else none
theorem zip_snoc {α : Type} (ks : List α) (k : α) : (ks ++ [k]).zipIdx = ks.zipIdx ++ [(k, ks.length)] := by rw [List.zipIdx_append]; simp
theorem dn_look {l : List Nd} {U : List Int} (hk : kidsOk l) (hn : (allKids l).Nodup) (hU : ∀ (i : Nat) (x : Nd) (k : Int), l[i]? = some x → k ∈ kids x → U[k.toNat]? = some (i : Int)) :
    ∀ i, i < l.length → ∀ (env : List Rch), (∀ s, look env s = upw l U i s) → ∀ xs : List (Int × Int), xs.length = l.length →
      (dn l i env xs).length = l.length ∧ ∀ m, (dn l i env xs)[m]? = if m ∈ post l i then (bv l U m).or xs[m]? else xs[m]? := by
  intro i
  induction i using Nat.strongRecOn with
  | ind i ih =>
    intro hi env he xs hxs
    obtain ⟨x, hx⟩ : ∃ x, l[i]? = some x := ⟨_, List.getElem?_eq_getElem hi⟩
    have ha := hk i x hx
    rw [dn_eq hx ha, post_eq hx ha]
    have hnd := kids_nodup hn hx
    have key : ∀ (ks r : List Int), ks ++ r = kids x → ∀ ys : List (Int × Int), ys.length = l.length →
        (dns l x i env ks.zipIdx ys).length = l.length ∧ ∀ m, (dns l x i env ks.zipIdx ys)[m]? = if m ∈ ks.flatMap (fun k => post l k.toNat) then (bv l U m).or ys[m]? else ys[m]? := by
      intro ks
      induction ks using snocInd with
      | h0 => intro r _ ys hys; simp [dns, hys]
      | h1 ks k ihk =>
        intro r hr ys hys
        obtain ⟨h1, h2⟩ := ihk (k :: r) (by simpa using hr) ys hys
        have hkm : (kids x)[ks.length]? = some k := by rw [← hr]; simp
        have hkk := ha k (List.mem_of_getElem? hkm)
        rw [zip_snoc, dns_snoc]
        have hki : k.toNat < i := by omega
        have hup : ∀ s, look (ofK x i ks.length env) s = upw l U k.toNat s := fun s => by
          rw [look_ofK hnd hkm, upw_kid (hU i x k hx (List.mem_of_getElem? hkm)) hx hki, he s]
          rw [show ((k.toNat : Nat) : Int) = k by omega]
        obtain ⟨h3, h4⟩ := ih k.toNat hki (by omega) _ hup _ h1
        refine ⟨h3, fun m => ?_⟩
        rw [h4, h2]
        simp only [List.flatMap_append, List.mem_append, List.flatMap_cons, List.flatMap_nil, List.append_nil]
        by_cases q1 : m ∈ post l k.toNat <;> by_cases q2 : m ∈ ks.flatMap (fun k => post l k.toNat) <;> simp only [q1, q2, if_true, if_false, or_true, true_or, or_false]
        cases bv l U m <;> rfl
    obtain ⟨h1, h2⟩ := key (kids x) [] (by simp) (if x.kind = 4 then xs.set i (look env x.nm) else xs) (by split <;> simp [hxs])
    refine ⟨h1, fun m => ?_⟩
    rw [h2]
    have hbi : bv l U i = if x.kind = 4 then some (look env x.nm) else none := by rw [bv, hx, he]; rfl
    simp only [List.mem_append, List.mem_singleton]
    by_cases hmi : m = i
    · subst hmi
      rw [hbi]
      by_cases h4 : x.kind = 4
      · simp [h4, hxs, hi]
      · simp [h4]
    · have e : (if x.kind = 4 then xs.set i (look env x.nm) else xs)[m]? = xs[m]? := by
        split
        · rw [List.getElem?_set_ne (by omega)]
        · rfl
      rw [e]
      simp [hmi]
theorem post_down {l : List Nd} (hk : kidsOk l) : ∀ r, r < l.length → ∀ (i : Nat) (x : Nd) (k : Int), i ∈ post l r → l[i]? = some x → k ∈ kids x → k.toNat ∈ post l r := by
  intro r
  induction r using Nat.strongRecOn with
  | ind r ih =>
    intro hr i x k hi hx hkk
    obtain ⟨y, hy⟩ : ∃ y, l[r]? = some y := ⟨_, List.getElem?_eq_getElem hr⟩
    have ha := hk r y hy
    rw [post_eq hy ha] at hi ⊢
    rcases List.mem_append.1 hi with h | h
    · obtain ⟨c, hc, hic⟩ := List.mem_flatMap.1 h
      have := ha c hc
      refine List.mem_append_left _ (List.mem_flatMap.2 ⟨c, hc, ih c.toNat (by omega) (by omega) i x k hic hx hkk⟩)
    · obtain rfl : i = r := by simpa using h
      rw [hx] at hy
      obtain rfl := Option.some.inj hy
      have := ha k hkk
      refine List.mem_append_left _ (List.mem_flatMap.2 ⟨k, hkk, ?_⟩)
      obtain ⟨z, hz⟩ : ∃ z, l[k.toNat]? = some z := ⟨_, List.getElem?_eq_getElem (by omega)⟩
      rw [post_eq hz (hk _ z hz)]
      simp
/-- Each node is below the root. -/
theorem post_root {l : List Nd} (hk : kidsOk l) (ho : onceOk l) : ∀ d j, l.length - 1 - j ≤ d → j < l.length → j ∈ post l (l.length - 1) := by
  intro d
  induction d with
  | zero =>
    intro j hd hj
    obtain rfl : j = l.length - 1 := by omega
    obtain ⟨z, hz⟩ : ∃ z, l[l.length - 1]? = some z := ⟨_, List.getElem?_eq_getElem (by omega)⟩
    rw [post_eq hz (hk _ z hz)]
    simp
  | succ d ih =>
    intro j hd hj
    by_cases hj1 : j + 1 < l.length
    · obtain ⟨i, x, hx, hm⟩ := mem_allKids.1 (ho.2 j hj1)
      have := hk i x hx _ hm
      have hi := (List.getElem?_eq_some_iff.1 hx).1
      have := post_down hk (l.length - 1) (by omega) i x (j : Int) (ih i (by omega) hi) hx hm
      simpa using this
    · exact ih j (by omega) hj
/-- All binders. -/
def bds (l : List Nd) (U : List Int) : List (Int × Int) := l.zipIdx.map fun p => if p.1.kind = 4 then upw l U p.2 p.1.nm else (-1, -1)
theorem bds_len (l : List Nd) (U : List Int) : (bds l U).length = l.length := by simp [bds]
theorem bds_at {l : List Nd} {U : List Int} {m : Nat} {x : Nd} (h : l[m]? = some x) : (bds l U)[m]? = some (if x.kind = 4 then upw l U m x.nm else (-1, -1)) := by
  rw [bds, List.getElem?_map, List.getElem?_zipIdx, h]; simp
theorem dn_bds {l : List Nd} {U : List Int} (h0 : 0 < l.length) (hk : kidsOk l) (ho : onceOk l) (hU : ∀ (i : Nat) (x : Nd) (k : Int), l[i]? = some x → k ∈ kids x → U[k.toNat]? = some (i : Int)) (hr : U[l.length - 1]? = some (-1)) :
    dn l (l.length - 1) [] (List.replicate l.length (-1, -1)) = bds l U := by
  obtain ⟨h1, h2⟩ := dn_look hk ho.1 hU (l.length - 1) (by omega) [] (fun s => by rw [upw_root hr]; rfl) (List.replicate l.length (-1, -1)) (by simp)
  refine List.ext_getElem? fun m => ?_
  rw [h2]
  by_cases hm : m < l.length
  · rw [if_pos (post_root hk ho _ m (Nat.le_refl _) hm)]
    obtain ⟨x, hx⟩ : ∃ x, l[m]? = some x := ⟨_, List.getElem?_eq_getElem hm⟩
    rw [bds_at hx, bv, hx]
    by_cases h4 : x.kind = 4 <;> simp [h4, hm]
  · rw [List.getElem?_eq_none (l := bds l U) (by rw [bds_len]; omega)]
    have : m ∉ post l (l.length - 1) := fun h => by have := post_le hk _ (by omega) m h; omega
    rw [if_neg this, List.getElem?_eq_none (by simp; omega)]
/-- A binder stands somewhere, or is none. -/
theorem upw_or (l : List Nd) (U : List Int) : ∀ d c s, l.length - c ≤ d → upw l U c s = (-1, -1) ∨ (c : Int) < (upw l U c s).1 ∧ (upw l U c s).1 < (l.length : Int) ∧ -1 ≤ (upw l U c s).2 := by
  intro d
  induction d with
  | zero => intro c s hd; left; rw [upw, dif_neg (by omega)]
  | succ d ih =>
    intro c s hd
    rw [upw]
    by_cases h : (c : Int) < U.getD c (-1) ∧ U.getD c (-1) < (l.length : Int)
    · rw [dif_pos h]
      by_cases hb : -2 < bnd (l[(U.getD c (-1)).toNat]'(by omega)) c s
      · rw [if_pos hb]
        exact .inr ⟨h.1, h.2, by show -1 ≤ bnd _ _ _; omega⟩
      · rw [if_neg hb]
        rcases ih (U.getD c (-1)).toNat s (by omega) with h' | ⟨h1, h2, h3⟩
        · exact .inl h'
        · exact .inr ⟨by omega, h2, h3⟩
    · rw [dif_neg h]; exact .inl rfl
end Go.Proofs.YteikpeaakmbihaaDoor.T
