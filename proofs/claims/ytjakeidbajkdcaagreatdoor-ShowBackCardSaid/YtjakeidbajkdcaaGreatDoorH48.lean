/- Joined by program. -/
import Derived.Test.YtjakeidbajkdcaaGreatDoorH33
import Derived.Test.YtjakeidbajkdcaaGreatDoorH07
import Derived.Test.YtjakeidbajkdcaaGreatDoorH21
import Derived.Test.YtjakeidbajkdcaaGreatDoorH47
import Derived.Test.YtjakeidbajkdcaaGreatDoorH38
import Derived.KernelRfl
namespace Go.Proofs.YtjakeidbajkdcaaGreatDoor.Y
open T
def mkB (b : List UInt8) : ByteArray := ⟨b.toArray⟩
theorem mkB_l (b : List UInt8) : (mkB b).data.toList = b := rfl
theorem mkB_s (b : List UInt8) : (mkB b).size = b.length := by rw [<- M.size_len]; rfl
theorem ext_l {a b : ByteArray} (h : a.data.toList = b.data.toList) : a = b := by apply ByteArray.ext; exact Array.toList_inj.1 h
def ends (b : List UInt8) : Prop := ∀ c r, b = c :: r -> c = 32 ∨ c = 41 ∨ c = 46 ∨ c = 44 ∨ c = 125
theorem ends_nil : ends [] := fun c r h => by cases h
theorem ends_32 (b : List UInt8) : ends (32 :: b) := fun c r h => by injection h with h _; exact .inl h.symm
theorem ends_41 (b : List UInt8) : ends (41 :: b) := fun c r h => by injection h with h _; exact .inr (.inl h.symm)
theorem ends_46 (b : List UInt8) : ends (46 :: b) := fun c r h => by injection h with h _; exact .inr (.inr (.inl h.symm))
theorem ends_44 (b : List UInt8) : ends (44 :: b) := fun c r h => by injection h with h _; exact .inr (.inr (.inr (.inl h.symm)))
theorem ends_125 (b : List UInt8) : ends (125 :: b) := fun c r h => by injection h with h _; exact .inr (.inr (.inr (.inr h.symm)))
theorem take_ends {p : UInt8 -> Bool} (hp : p 32 = false /\ p 41 = false /\ p 46 = false /\ p 44 = false /\ p 125 = false) {b : List UInt8} (hb : ends b) : b.takeWhile p = [] := by
  cases b with
  | nil => rfl
  | cons c r =>
    rw [List.takeWhile_cons]
    have : p c = false := by
      obtain ⟨h1, h2, h3, h4, h5⟩ := hp
      rcases hb c r rfl with rfl | rfl | rfl | rfl | rfl <;> assumption
    rw [this]; rfl
theorem take_all {p : UInt8 -> Bool} {l b : List UInt8} (hl : ∀ c ∈ l, p c = true) (hb : b.takeWhile p = []) : (l ++ b).takeWhile p = l := by
  induction l with
  | nil => exact hb
  | cons c l ih =>
    rw [List.cons_append, List.takeWhile_cons, hl c (by simp), if_pos rfl, ih fun x hx => hl x (by simp [hx])]
theorem take_len {p : UInt8 -> Bool} : ∀ l : List UInt8, (l.takeWhile p).length = l.length -> ∀ c ∈ l, p c = true
  | [], _, c, hc => by cases hc
  | x :: l, h, c, hc => by
    rw [List.takeWhile_cons] at h
    cases hx : p x with
    | false => rw [hx] at h; simp at h
    | true =>
      rw [hx] at h
      simp only [if_true, List.length_cons, Nat.add_right_cancel_iff] at h
      rcases List.mem_cons.1 hc with rfl | hc
      · exact hx
      · exact take_len l h c hc
def IsTok (w b : List UInt8) (u : U) : Prop := L.tok (mkB (w ++ b)) = ⟨u.1, u.2.1, u.2.2, w.length, 0⟩ /\ 0 < w.length /\ L.gp false (w ++ b) = 0
def sI (x : L.Item) : U := (x.1.k, x.1.t, x.1.n)
def Lx (b : List UInt8) (us : List U) : Prop := ∀ (s : ByteArray) (a f : Nat), a <= s.size -> s.data.toList.drop a = b -> b.length < f -> (∀ x ∈ L.its f s (L.nx s a), x.1.e = 0 /\ x.2 <= s.size) /\ (L.its f s (L.nx s a)).map sI = us
theorem lx_nil : Lx [] [] := fun s a f ha hd hf => by
  have h1 : s.size <= a := by
    have := congrArg List.length hd
    rw [List.length_drop, M.size_len] at this
    simp at this; omega
  have : ¬ L.nx s a < s.size := by have := L.nx_ge s a; omega
  rw [L.its_end this]
  exact ⟨fun x hx => (by cases hx), rfl⟩
theorem lx_blank {b : List UInt8} {us : List U} (h : Lx b us) : Lx (32 :: b) us := fun s a f ha hd hf => by
  have hl := congrArg List.length hd
  rw [List.length_drop, M.size_len, List.length_cons] at hl
  have h1 : s.data.toList.drop (a + 1) = b := by rw [<- List.drop_drop, hd]; rfl
  have h2 : L.nx s a = L.nx s (a + 1) := by
    unfold L.nx
    rw [hd, h1]
    show a + L.gp false (32 :: b) = _
    have : L.gp false (32 :: b) = 1 + L.gp false b := by
      rw [L.gp, if_pos (show L.isB (UInt8.toNat 32) = true from rfl)]
    rw [this]; omega
  rw [h2]
  exact h s (a + 1) f (by omega) h1 (by rw [List.length_cons] at hf; omega)
theorem lx_tok {w b : List UInt8} {u : U} {us : List U} (ht : IsTok w b u) (h : Lx b us) : Lx (w ++ b) (u :: us) := fun s a f ha hd hf => by
  obtain ⟨h1, h2, h3⟩ := ht
  have hl := congrArg List.length hd
  rw [List.length_drop, M.size_len, List.length_append] at hl
  rw [List.length_append] at hf
  have hn : L.nx s a = a := by unfold L.nx; rw [hd, h3]; rfl
  have he : s.extract a s.size = mkB (w ++ b) := ext_l (by
    rw [L.data_extract, hd, mkB_l, List.take_of_length_le]
    rw [List.length_append]; omega)
  obtain ⟨g, rfl⟩ : ∃ g, f = g + 1 := ⟨f - 1, by omega⟩
  have hd2 : s.data.toList.drop (a + w.length) = b := by rw [<- List.drop_drop, hd]; simp
  obtain ⟨i1, i2⟩ := h s (a + w.length) g (by omega) hd2 (by omega)
  have e : L.its (g + 1) s (L.nx s a) = (⟨u.1, u.2.1, u.2.2, w.length, 0⟩, a) :: L.its g s (L.nx s (a + w.length)) := by
    rw [hn, L.its, if_pos (by omega), he, h1, if_pos rfl]
  rw [e]
  refine ⟨fun x hx => ?_, by rw [List.map_cons, i2]; rfl⟩
  rcases List.mem_cons.1 hx with rfl | hx
  · exact ⟨rfl, ha⟩
  · exact i1 x hx
def LxS (s : ByteArray) (us : List U) : Prop := ∀ b vs, ends b -> Lx b vs -> Lx (s.data.toList ++ b) (us ++ vs)
theorem gp_word {c : UInt8} {b : List UInt8} (h : 33 <= c.toNat) (h2 : c.toNat ≠ 35) : L.gp false (c :: b) = 0 := by
  have : L.isB c.toNat = false := by
    unfold L.isB
    simp only [decide_eq_false_iff_not]
    omega
  rw [L.gp, if_neg (by rw [this]; decide), if_neg h2]
theorem word_wl {w : ByteArray} (h0 : 0 < w.size) (hw : M.wl w = w.size) {b : List UInt8} (hb : ends b) : M.wl (mkB (w.data.toList ++ b)) = w.size /\ (M.begW (M.fst w) || M.begT (M.fst w)) = true /\ M.fst (mkB (w.data.toList ++ b)) = M.fst w := by
  have hbeg : (M.begW (M.fst w) || M.begT (M.fst w)) = true := by
    unfold M.wl at hw
    split at hw
    · rename_i h; exact h.2
    · omega
  have hne : w.data.toList ≠ [] := fun e => by have := M.size_len w; rw [e] at this; simp at this; omega
  have hf : M.fst (mkB (w.data.toList ++ b)) = M.fst w := by
    unfold M.fst
    rw [mkB_l]
    obtain ⟨c, r, hc⟩ := List.exists_cons_of_ne_nil hne
    rw [hc]; rfl
  refine ⟨?_, hbeg, hf⟩
  rw [M.wl_w (by rw [mkB_s, List.length_append, M.size_len]; omega) (by rw [hf]; exact hbeg)]
  rw [M.wl_w h0 hbeg] at hw
  unfold M.more at hw ⊢
  rw [mkB_l]
  obtain ⟨c, r, hc⟩ := List.exists_cons_of_ne_nil hne
  rw [hc] at hw ⊢
  simp only [List.cons_append, List.drop_succ_cons, List.drop_zero] at hw ⊢
  have hl : w.size = r.length + 1 := by rw [<- M.size_len, hc]; rfl
  have hg : ∀ c ∈ r, M.goes c.toNat = true := take_len (p := fun c => M.goes c.toNat) r (by omega)
  rw [take_all (p := fun c => M.goes c.toNat) hg (take_ends (by decide) hb)]
  omega
theorem is_word {w : ByteArray} (h0 : 0 < w.size) (hw : M.wl w = w.size) {b : List UInt8} (hb : ends b) {k : Int} (hr : L.wordR w = ⟨k, w, 0, w.size, 0⟩) : IsTok w.data.toList b (k, w, 0) := by
  obtain ⟨h1, h2, h3⟩ := word_wl h0 hw hb
  refine ⟨?_, by rw [M.size_len]; exact h0, ?_⟩
  · unfold L.tok
    rw [h1, if_pos h0]
    have : (mkB (w.data.toList ++ b)).extract 0 w.size = w := ext_l (by
      rw [L.data_extract, mkB_l, List.drop_zero, Nat.sub_zero, <- M.size_len]; simp)
    rw [this, hr, M.size_len]
  · have hne : w.data.toList ≠ [] := fun e => by have := M.size_len w; rw [e] at this; simp at this; omega
    unfold M.fst at h2
    obtain ⟨c, r, hc⟩ := List.exists_cons_of_ne_nil hne
    rw [hc] at h2 ⊢
    simp only [List.headD_cons] at h2
    rw [List.cons_append]
    simp only [M.begW, M.begT, Bool.or_eq_true, decide_eq_true_eq] at h2
    exact gp_word (by omega) (by omega)
theorem is_name {w : ByteArray} (h : M.nameB w = true) {b : List UInt8} (hb : ends b) : IsTok w.data.toList b (2, w, 0) := by
  unfold M.nameB M.wholeB at h
  simp only [Bool.and_eq_true, decide_eq_true_eq, Bool.not_eq_true'] at h
  obtain ⟨⟨h0, h1, h2⟩, h3, h4⟩ := h
  refine is_word h0 h2 hb ?_
  unfold L.wordR
  rw [if_neg (by rw [h4]; decide), if_neg (by omega), if_neg (by rw [M.begT_not h3]; decide)]
theorem tag_kw {w : ByteArray} (h : M.begT (M.fst w) = true) : M.kwB w = false := by
  cases hk : M.kwB w with
  | false => rfl
  | true =>
    unfold M.kwB at hk
    have hm := M.inB_iff.1 hk
    have : ∀ t ∈ kwl, M.begT (M.fst t) = false := by decide +kernel
    rw [this w hm] at h
    cases h
theorem is_tag {w : ByteArray} (h : M.tagB w = true) {b : List UInt8} (hb : ends b) : IsTok w.data.toList b (3, w, 0) := by
  unfold M.tagB M.wholeB at h
  simp only [Bool.and_eq_true, decide_eq_true_eq] at h
  obtain ⟨⟨h0, h1, h2⟩, h3⟩ := h
  refine is_word h0 h2 hb ?_
  unfold L.wordR
  rw [if_neg (by rw [tag_kw h3]; decide), if_neg (by omega), if_pos h3]
theorem is_key {w : List UInt8} (h : M.kwB (mkB w) = true) (h0 : 0 < w.length) (hw : M.wl (mkB w) = w.length) {b : List UInt8} (hb : ends b) : IsTok w b (1, mkB w, 0) := by
  have := is_word (w := mkB w) (by rw [mkB_s]; exact h0) (by rw [mkB_s]; exact hw) hb (k := 1) (by unfold L.wordR; rw [if_pos h])
  rwa [mkB_l] at this
theorem is_num {n : Int} (h : W.InR n) {b : List UInt8} (hb : ends b) : IsTok (W.wtext n) b (4, ⟨#[]⟩, n) := by
  obtain ⟨c, r, hc, h1, hr⟩ : ∃ c r, W.wtext n = c :: r /\ (c.toNat = 126 ∨ (48 <= c.toNat /\ c.toNat <= 57)) /\ W.AllDig r := by
    by_cases hn : n < 0
    · exact ⟨126, _, W.wtext_neg hn, .inl rfl, W.dec_dig _⟩
    · rw [W.wtext_pos hn]
      obtain ⟨c, r, hc⟩ := List.exists_cons_of_ne_nil (W.dec_ne n.natAbs)
      have := W.dec_dig n.natAbs
      rw [hc] at this
      exact ⟨c, r, hc, .inr (this c (by simp)), fun x hx => this x (by simp [hx])⟩
  have hf : M.fst (mkB (W.wtext n ++ b)) = c.toNat := by unfold M.fst; rw [mkB_l, hc]; rfl
  have hlen : (W.wtext n).length = r.length + 1 := by rw [hc]; rfl
  refine ⟨?_, by omega, ?_⟩
  · unfold L.tok
    have hw : M.wl (mkB (W.wtext n ++ b)) = 0 := M.wl_not (by rw [hf]; exact M.begW_f (by omega) (by omega)) (by rw [hf]; exact M.begT_f (by omega))
    have hd : L.dl (mkB (W.wtext n ++ b)) 1 = r.length := by
      unfold L.dl
      rw [mkB_l, hc, List.cons_append, List.drop_succ_cons, List.drop_zero, take_all (p := fun c => M.isD c.toNat) (fun x hx => M.isD_iff.2 (hr x hx)) (take_ends (by decide) hb)]
    have hx : (mkB (W.wtext n ++ b)).extract 0 (1 + r.length) = mkB (W.wtext n) := ext_l (by
      rw [L.data_extract, mkB_l, mkB_l, List.drop_zero, Nat.sub_zero, show 1 + r.length = (W.wtext n).length by omega]; simp)
    rw [hw, if_neg (by omega), hf, if_neg (by omega), if_pos (by
      rcases h1 with h1 | h1
      · exact .inl h1
      · exact .inr (M.isD_iff.2 h1)), hd, hx]
    unfold L.numR
    rw [mkB_l, (W.pv_yes h).1, (W.pv_yes h).2, if_pos rfl, mkB_s]
  · rw [hc, List.cons_append]
    exact gp_word (by omega) (by omega)
theorem is_str {s : ByteArray} (h : s.size <= 200) (b : List UInt8) : IsTok (Q.qtext s.data.toList) b (5, s, 0) := by
  obtain ⟨r, hc⟩ : ∃ r, Q.qtext s.data.toList = 34 :: r := ⟨_, by unfold Q.qtext; rfl⟩
  have hf : M.fst (mkB (Q.qtext s.data.toList ++ b)) = 34 := by unfold M.fst; rw [mkB_l, hc]; rfl
  have hl : ¬ 200 < s.data.toList.length := by rw [M.size_len]; omega
  refine ⟨?_, by rw [hc]; exact Nat.succ_pos _, ?_⟩
  · unfold L.tok
    have hw : M.wl (mkB (Q.qtext s.data.toList ++ b)) = 0 := M.wl_not (by rw [hf]; rfl) (by rw [hf]; rfl)
    rw [hw, if_neg (by omega), hf, if_neg (by omega), if_neg (by decide), if_pos rfl]
    unfold L.strR
    rw [mkB_l, Q.tq_qtext]
    simp only [Q.tE, Q.tT, Q.tN, if_neg hl, if_true]
  · rw [hc, List.cons_append]
    exact gp_word (by decide) (by decide)
theorem is_sign {c : UInt8} {w b : List UInt8} (h : (!M.begW c.toNat && (!M.begT c.toNat && (decide (c.toNat ≠ 39) && (decide (c.toNat ≠ 126) && (!M.isD c.toNat && (decide (c.toNat ≠ 34) && (decide (33 <= c.toNat) && decide (c.toNat ≠ 35)))))))) = true)
    (hk : L.sg (mkB (c :: w ++ b)) = (c :: w).length) : IsTok (c :: w) b (7, mkB (c :: w), 0) := by
  simp only [Bool.and_eq_true, Bool.not_eq_true', decide_eq_true_eq] at h
  obtain ⟨h1, h2, h3, h4, h5, h6, h7, h8⟩ := h
  refine ⟨?_, Nat.succ_pos _, gp_word h7 h8⟩
  have hf : M.fst (mkB (c :: w ++ b)) = c.toNat := rfl
  unfold L.tok
  rw [M.wl_not (by rw [hf]; exact h1) (by rw [hf]; exact h2), if_neg (by omega), hf, if_neg h3, if_neg (by rw [h5]; intro h; rcases h with h | h; exact h4 h; cases h), if_neg h6]
  unfold L.signR
  rw [hk, if_neg (by rw [List.length_cons]; omega)]
  have : (mkB (c :: w ++ b)).extract 0 (c :: w).length = mkB (c :: w) := ext_l (by rw [L.data_extract, mkB_l, mkB_l, List.drop_zero, Nat.sub_zero]; simp)
  rw [this]
theorem sg_one {c : UInt8} {l : List UInt8} (h1 : c ≠ 45) (h2 : c ≠ 61) (h3 : L.isSign c = true) : L.sg (mkB (c :: l)) = 1 := by
  have e : L.two (mkB (c :: l)) = false := by
    have a1 : ((45 : UInt8) == c) = false := by simpa using fun e => h1 e.symm
    have a2 : ((61 : UInt8) == c) = false := by simpa using fun e => h2 e.symm
    unfold L.two Lib.hasPrefix
    rw [mkB_l]
    simp only [List.isPrefixOf, a1, a2, Bool.false_and, Bool.or_self]
  unfold L.sg
  rw [e, if_neg (by decide), mkB_l, List.headD_cons, if_pos h3]
theorem sg_dash {c : UInt8} {l : List UInt8} (h3 : L.isSign c = true) : L.sg (mkB (c :: 32 :: l)) = 1 := by
  have e : L.two (mkB (c :: 32 :: l)) = false := by
    unfold L.two Lib.hasPrefix
    rw [mkB_l]
    have a1 : ((62 : UInt8) == 32) = false := by decide
    have a2 : ((61 : UInt8) == 32) = false := by decide
    simp only [List.isPrefixOf, a1, a2, Bool.false_and, Bool.and_false, Bool.or_self]
  unfold L.sg
  rw [e, if_neg (by decide), mkB_l, List.headD_cons, if_pos h3]
theorem sg_two {l : List UInt8} (c d : UInt8) (h : c = 45 /\ d = 62 ∨ c = 61 /\ d = 61) : L.sg (mkB (c :: d :: l)) = 2 := by
  have e : L.two (mkB (c :: d :: l)) = true := by
    unfold L.two Lib.hasPrefix
    rw [mkB_l]
    rcases h with ⟨rfl, rfl⟩ | ⟨rfl, rfl⟩ <;> simp [List.isPrefixOf]
  unfold L.sg
  rw [if_pos e]
theorem is_one (c : UInt8) (b : List UInt8) (h : c = 40 ∨ c = 41 ∨ c = 123 ∨ c = 125 ∨ c = 44 ∨ c = 124 ∨ c = 46 ∨ c = 60 ∨ c = 43 ∨ c = 42 ∨ c = 47 ∨ c = 94) : IsTok [c] b (sg c) := by
  rcases h with rfl | rfl | rfl | rfl | rfl | rfl | rfl | rfl | rfl | rfl | rfl | rfl <;> exact is_sign (by decide) (sg_one (by decide) (by decide) (by decide))
theorem is_dash (c : UInt8) (b : List UInt8) (h : c = 45 ∨ c = 61) : IsTok [c] (32 :: b) (sg c) := by
  rcases h with rfl | rfl <;> exact is_sign (by decide) (sg_dash (by decide))
theorem is_arrow (b : List UInt8) : IsTok [45, 62] b (7, mkB [45, 62], 0) := is_sign (by decide) (sg_two _ _ (.inl ⟨rfl, rfl⟩))
theorem is_same (b : List UInt8) : IsTok [61, 61] b (7, mkB [61, 61], 0) := is_sign (by decide) (sg_two _ _ (.inr ⟨rfl, rfl⟩))
open T S
structure Rt (x : Nd) : Prop where
  k1 : 1 <= x.kind
  k2 : x.kind <= 14
  n : x.kind ≠ 1 -> x.kind ≠ 2 -> x.kind ≠ 10 -> x.n = 0
  s : x.kind ≠ 3 -> x.s = ⟨#[]⟩
  l : x.kind ≠ 11 -> x.kind ≠ 14 -> x.l = []
  nm : (x.kind = 4 ∨ x.kind = 5 ∨ x.kind = 7 ∨ x.kind = 8 ∨ x.kind = 12) -> M.nameB x.nm = true
  tag : x.kind = 13 -> M.tagB x.nm = true
  no : ¬ (x.kind = 4 ∨ x.kind = 5 ∨ x.kind = 7 ∨ x.kind = 8 ∨ x.kind = 12) -> x.kind ≠ 13 -> x.nm = ⟨#[]⟩
  b : x.kind = 2 -> x.n = 0 ∨ x.n = 1
  p : x.kind = 10 -> 1 <= x.n /\ x.n <= 7
  z : x.kind = 3 -> x.s.size <= 200
  lab : x.kind = 11 ∨ x.kind = 14 -> labB x.kind x.l = true
theorem emp {s : ByteArray} (h : s.toList.isEmpty = true) : s = ⟨#[]⟩ := by
  rw [ByteArray.toList_eq, List.isEmpty_iff] at h
  exact ext_l h
theorem rt_of {x : Nd} (h : rightB x = true) : Rt x := by
  unfold rightB rB named at h
  simp only [Bool.and_eq_true, Bool.not_eq_true', Bool.or_eq_false_iff, Bool.or_eq_true, decide_eq_false_iff_not, decide_eq_true_eq, Bool.and_eq_false_iff, Bool.not_eq_false'] at h
  obtain ⟨⟨⟨⟨⟨h1, h2⟩, h3⟩, h4⟩, h5⟩, h6⟩ := h
  refine ⟨by omega, by omega, fun a b c => ?_, fun a => ?_, fun a b => ?_, fun a => ?_, fun a => ?_, fun a b => ?_, fun a => by omega, fun a => by omega, fun a => by omega, fun a => ?_⟩
  · omega
  · rcases h2.2.1 with h | h
    · exact absurd a h
    · exact emp h
  · have : x.l.length = 0 := by omega
    exact List.eq_nil_of_length_eq_zero this
  · rcases h4.1 with h | h
    · exact absurd a h
    · exact h
  · rcases h4.2.1 with h | h
    · exact absurd a h
    · exact h
  · rcases h4.2.2 with h | h
    · exact absurd h a
    · rcases h with h | h
      · exact absurd b h
      · exact emp h
  · rcases h6 with h | h
    · exact absurd a (by omega)
    · exact h
theorem lxs_bra {t m : Int} {s : ByteArray} {us : List U} (h : LxS s us) : LxS (bra t m s) (bru t m us) := by
  unfold bra bru
  split
  · intro b vs hb hv
    have e1 : ((⟨#[40]⟩ ++ s) ++ ⟨#[41]⟩ : ByteArray).data.toList ++ b = [40] ++ (s.data.toList ++ ([41] ++ b)) := by simp [ByteArray.data_append]
    have e2 : (sg 40 :: us ++ [sg 41]) ++ vs = sg 40 :: (us ++ (sg 41 :: vs)) := by simp
    rw [e1, e2]
    exact lx_tok (is_one 40 _ (.inl rfl)) (h _ _ (ends_41 _) (lx_tok (is_one 41 b (.inr (.inl rfl))) hv))
  · exact h
abbrev dpt (l : List Nd) (k : Nat) : Nat := (deeps l).getD k 0
structure Ch (E M : Int) (l : List Nd) (h : Nat) (k : Int) (us : List U) (y : Nd) : Prop where
  hy : l[k.toNat]? = some y
  lx : LxS (tx l k.toNat) us
  nk : Nk E M (S.tight y.kind y.n) us (cp l k.toNat []) (dpt l k.toNat)
  d1 : 1 <= dpt l k.toNat
  d2 : dpt l k.toNat + 1 <= h
  ln : us.length + 6 <= 12 * (post l k.toNat).length
def cu (y : Nd) (m : Int) (us : List U) : List U := bru (S.tight y.kind y.n) m us
theorem cu_len (y : Nd) (m : Int) (us : List U) : (cu y m us).length <= us.length + 2 := by
  unfold cu bru
  split
  · simp
  · omega
section
variable {E M : Int} {l : List Nd} {h : Nat} {k : Int} {us : List U} {y : Nd}
theorem Ch.ch (H : Ch E M l h k us y) (m : Int) : chOf l (tx l) k m = bra (S.tight y.kind y.n) m (tx l k.toNat) := by
  unfold chOf
  rw [H.hy]
theorem Ch.t (H : Ch E M l h k us y) (m : Int) : LxS (chOf l (tx l) k m) (cu y m us) := by
  rw [H.ch m]
  exact lxs_bra H.lx
theorem Ch.e0 (H : Ch E M l h k us y) {d : Nat} (hd : d + h <= 101) : RE E M d (cu y 0 us) (cp l k.toNat []) := H.nk.e0 H.d1 (by have := H.d2; omega)
theorem Ch.p6 (H : Ch E M l h k us y) {d : Nat} (hd : d + h <= 101) : RP E M d (cu y 6 us) (cp l k.toNat []) := H.nk.p6 H.d1 (by have := H.d2; omega)
theorem Ch.b5 (H : Ch E M l h k us y) {d : Nat} (hd : d + h <= 101) : RB E M d (cu y 5 us) (cp l k.toNat []) := H.nk.b5 H.d1 (by have := H.d2; omega)
theorem Ch.c4 (H : Ch E M l h k us y) {d : Nat} (hd : d + h <= 101) : RC E M d (cu y 4 us) (cp l k.toNat []) := H.nk.c4 H.d1 (by have := H.d2; omega)
theorem Ch.d3 (H : Ch E M l h k us y) {d : Nat} (hd : d + h <= 101) : RD E M d (cu y 3 us) (cp l k.toNat []) := H.nk.d3 H.d1 (by have := H.d2; omega)
theorem Ch.f2 (H : Ch E M l h k us y) {d : Nat} (hd : d + h <= 101) : RF E M d (cu y 2 us) (cp l k.toNat []) := H.nk.f2 H.d1 (by have := H.d2; omega)
end
section
variable {E M : Int} {us : List U} {e : List Nd} {h : Nat}
theorem nk7 (hb : bg us) (H : ∀ d, d + h <= 101 -> RA E M d us e) : Nk E M 7 us e h :=
  ⟨by decide, by decide, fun _ => hb, fun _ => bg_hd hb, fun _ => H, fun x => absurd x (by decide), fun x => absurd x (by decide), fun x => absurd x (by decide), fun x => absurd x (by decide), fun x => absurd x (by decide), fun x => absurd x (by decide), fun x => absurd x (by decide)⟩
theorem nk6 (hb : bg us) (H : ∀ d, d + h <= 101 -> RP E M d us e) : Nk E M 6 us e h :=
  ⟨by decide, by decide, fun _ => hb, fun _ => bg_hd hb, fun x => absurd x (by decide), fun _ => H, fun x => absurd x (by decide), fun x => absurd x (by decide), fun x => absurd x (by decide), fun x => absurd x (by decide), fun x => absurd x (by decide), fun x => absurd x (by decide)⟩
theorem nk5 (hb : bg us) (H : ∀ d, d + h <= 101 -> RB E M d us e) : Nk E M 5 us e h :=
  ⟨by decide, by decide, fun _ => hb, fun _ => bg_hd hb, fun x => absurd x (by decide), fun x => absurd x (by decide), fun _ => H, fun x => absurd x (by decide), fun x => absurd x (by decide), fun x => absurd x (by decide), fun x => absurd x (by decide), fun x => absurd x (by decide)⟩
theorem nk4 (hb : hd us) (H : ∀ d, d + h <= 101 -> RC E M d us e) : Nk E M 4 us e h :=
  ⟨by decide, by decide, fun x => absurd x (by decide), fun _ => hb, fun x => absurd x (by decide), fun x => absurd x (by decide), fun x => absurd x (by decide), fun _ => H, fun x => absurd x (by decide), fun x => absurd x (by decide), fun x => absurd x (by decide), fun x => absurd x (by decide)⟩
theorem nk3 (hb : hd us) (H : ∀ d, d + h <= 101 -> RD E M d us e) : Nk E M 3 us e h :=
  ⟨by decide, by decide, fun x => absurd x (by decide), fun _ => hb, fun x => absurd x (by decide), fun x => absurd x (by decide), fun x => absurd x (by decide), fun x => absurd x (by decide), fun _ => H, fun x => absurd x (by decide), fun x => absurd x (by decide), fun x => absurd x (by decide)⟩
theorem nk2 (hb : hd us) (H : ∀ d, d + h <= 101 -> RF E M d us e) : Nk E M 2 us e h :=
  ⟨by decide, by decide, fun x => absurd x (by decide), fun _ => hb, fun x => absurd x (by decide), fun x => absurd x (by decide), fun x => absurd x (by decide), fun x => absurd x (by decide), fun x => absurd x (by decide), fun _ => H, fun x => absurd x (by decide), fun x => absurd x (by decide)⟩
theorem nk1 (hb : hd us) (H : ∀ d, d + h <= 101 -> RK E M d us e) : Nk E M 1 us e h :=
  ⟨by decide, by decide, fun x => absurd x (by decide), fun _ => hb, fun x => absurd x (by decide), fun x => absurd x (by decide), fun x => absurd x (by decide), fun x => absurd x (by decide), fun x => absurd x (by decide), fun x => absurd x (by decide), fun _ => H, fun x => absurd x (by decide)⟩
theorem nk0 (H : ∀ d, d + h <= 100 -> RE E M d us e) : Nk E M 0 us e h :=
  ⟨by decide, by decide, fun x => absurd x (by decide), fun x => absurd x (by decide), fun x => absurd x (by decide), fun x => absurd x (by decide), fun x => absurd x (by decide), fun x => absurd x (by decide), fun x => absurd x (by decide), fun x => absurd x (by decide), fun x => absurd x (by decide), fun _ => H⟩
end
open T S
def NG (E M : Int) (l : List Nd) (i : Nat) (x : Nd) : Prop := ∃ us, LxS (tx l i) us /\ Nk E M (S.tight x.kind x.n) us (cp l i []) (dpt l i) /\ us.length + 6 <= 12 * (post l i).length
structure Cx (M : Int) (l : List Nd) (i : Nat) (x : Nd) : Prop where
  hk : kidsOk l
  hx : l[i]? = some x
  R : Rt x
  tx : tx l i = body x (chOf l (tx l))
  n : W.InR x.n
  M0 : 0 <= M
theorem app2 (a b : ByteArray) (r : List UInt8) : (a ++ b).data.toList ++ r = a.data.toList ++ (b.data.toList ++ r) := by simp [ByteArray.data_append]
theorem key_ok {w : List UInt8} (h : (M.kwB (mkB w) && (decide (0 < w.length) && decide (M.wl (mkB w) = w.length))) = true) {b : List UInt8} (hb : ends b) : IsTok w b (1, mkB w, 0) := by
  simp only [Bool.and_eq_true, decide_eq_true_eq] at h
  exact is_key h.1 h.2.1 h.2.2 hb
abbrev uW (w : List UInt8) : U := (1, mkB w, 0)
abbrev uN (s : ByteArray) : U := (2, s, 0)
abbrev uT (s : ByteArray) : U := (3, s, 0)
abbrev uS (w : List UInt8) : U := (7, mkB w, 0)
section
variable {E M : Int} {l : List Nd} {i : Nat} {x : Nd} {usa usb usc : List U} {ya yb yc : Nd}
theorem kid0 (h : x.kind = 1 ∨ x.kind = 2 ∨ x.kind = 3 ∨ x.kind = 4) : kids x = [] := by
  unfold kids kids0 many
  rcases h with h | h | h | h <;> simp [h]
theorem kid1 (h : x.kind = 5 ∨ x.kind = 12 ∨ x.kind = 13) : kids x = [x.a] := by
  unfold kids kids0 many
  rcases h with h | h | h <;> simp [h]
theorem kid2 (h : x.kind = 6 ∨ x.kind = 7 ∨ x.kind = 8 ∨ x.kind = 10) : kids x = [x.a, x.b] := by
  unfold kids kids0 many
  rcases h with h | h | h | h <;> simp [h]
theorem kid3 (h : x.kind = 9) : kids x = [x.a, x.b, x.c] := by
  unfold kids kids0 many
  simp [h]
theorem plen (C : Cx M l i x) : (post l i).length = ((kids x).map fun k => (post l k.toNat).length).sum + 1 := by
  rw [post_eq C.hx (fun k hm => C.hk i x C.hx k hm), List.length_append, List.length_flatMap]
  rfl
theorem len0 (C : Cx M l i x) (h : kids x = []) : (post l i).length = 1 := by rw [plen C, h]; rfl
theorem len1 (C : Cx M l i x) (h : kids x = [x.a]) : (post l i).length = (post l x.a.toNat).length + 1 := by rw [plen C, h]; simp
theorem len2 (C : Cx M l i x) (h : kids x = [x.a, x.b]) : (post l i).length = (post l x.a.toNat).length + (post l x.b.toNat).length + 1 := by rw [plen C, h]; simp
theorem len3 (C : Cx M l i x) (h : kids x = [x.a, x.b, x.c]) : (post l i).length = (post l x.a.toNat).length + (post l x.b.toNat).length + (post l x.c.toNat).length + 1 := by rw [plen C, h]; simp; omega
theorem lks1 {t a : List Nd} (h : Lk M t a) : Lks M [t] [a] := Lks.one h
theorem lks2 {t a u b : List Nd} (h : Lk M t a) (g : Lk M u b) : Lks M [t, u] [a, b] := Lks.cons h (Lks.one g)
theorem lks3 {t a u b v c : List Nd} (h : Lk M t a) (g : Lk M u b) (k : Lk M v c) : Lks M [t, u, v] [a, b, c] := Lks.cons h (lks2 g k)
theorem n_int (C : Cx M l i x) (h1 : x.kind = 1) : NG E M l i x := by
  refine ⟨[(4, ⟨#[]⟩, x.n)], ?_, ?_, ?_⟩
  · rw [C.tx, body_1 h1]
    intro b vs hb hv
    exact lx_tok (is_num C.n hb) hv
  · rw [h1]
    refine nk7 ⟨_, _, rfl, .inl rfl⟩ fun d hd ts rest hts => ?_
    obtain ⟨p, t2, rfl, hp, h2⟩ := hts.cons
    obtain rfl := h2.nil
    exact ⟨_, node_lk C.hk C.hx (y := { mk 1 p with n := x.n }) ⟨h1.symm, rfl, (C.R.no (by omega) (by omega)).symm, (C.R.s (by omega)).symm, by rw [C.R.l (by omega) (by omega)]; rfl⟩ hp (by rw [kid0 (.inl h1)]; exact Lks.nil), ev_int⟩
  · rw [len0 C (kid0 (.inl h1))]; exact (by decide : 1 + 6 <= 12 * 1)
theorem n_bool (C : Cx M l i x) (h1 : x.kind = 2) : NG E M l i x := by
  rcases C.R.b h1 with h0 | h0
  · refine ⟨[uW w_false], ?_, ?_, ?_⟩
    · rw [C.tx, body_2 h1, if_pos h0]
      intro b vs hb hv
      exact lx_tok (key_ok (w := w_false) (by decide +kernel) hb) hv
    · rw [h1]
      refine nk7 ⟨_, _, rfl, .inr (.inr (.inr (.inl ⟨rfl, .inr (.inl rfl)⟩)))⟩ fun d hd ts rest hts => ?_
      obtain ⟨p, t2, rfl, hp, h2⟩ := hts.cons
      obtain rfl := h2.nil
      exact ⟨_, node_lk C.hk C.hx (y := mk 2 p) ⟨h1.symm, h0.symm, (C.R.no (by omega) (by omega)).symm, (C.R.s (by omega)).symm, by rw [C.R.l (by omega) (by omega)]; rfl⟩ hp (by rw [kid0 (.inr (.inl h1))]; exact Lks.nil), ev_false⟩
    · rw [len0 C (kid0 (.inr (.inl h1)))]; exact (by decide : 1 + 6 <= 12 * 1)
  · refine ⟨[uW w_true], ?_, ?_, ?_⟩
    · rw [C.tx, body_2 h1, if_neg (by omega)]
      intro b vs hb hv
      exact lx_tok (key_ok (w := w_true) (by decide +kernel) hb) hv
    · rw [h1]
      refine nk7 ⟨_, _, rfl, .inr (.inr (.inr (.inl ⟨rfl, .inl rfl⟩)))⟩ fun d hd ts rest hts => ?_
      obtain ⟨p, t2, rfl, hp, h2⟩ := hts.cons
      obtain rfl := h2.nil
      exact ⟨_, node_lk C.hk C.hx (y := { mk 2 p with n := 1 }) ⟨h1.symm, h0.symm, (C.R.no (by omega) (by omega)).symm, (C.R.s (by omega)).symm, by rw [C.R.l (by omega) (by omega)]; rfl⟩ hp (by rw [kid0 (.inr (.inl h1))]; exact Lks.nil), ev_true⟩
    · rw [len0 C (kid0 (.inr (.inl h1)))]; exact (by decide : 1 + 6 <= 12 * 1)
theorem n_str (C : Cx M l i x) (h1 : x.kind = 3) : NG E M l i x := by
  refine ⟨[(5, x.s, 0)], ?_, ?_, ?_⟩
  · rw [C.tx, body_3 h1]
    intro b vs hb hv
    exact lx_tok (is_str (C.R.z h1) b) hv
  · rw [h1]
    refine nk7 ⟨_, _, rfl, .inr (.inl rfl)⟩ fun d hd ts rest hts => ?_
    obtain ⟨p, t2, rfl, hp, h2⟩ := hts.cons
    obtain rfl := h2.nil
    exact ⟨_, node_lk C.hk C.hx (y := { mk 3 p with s := x.s }) ⟨h1.symm, (C.R.n (by omega) (by omega) (by omega)).symm, (C.R.no (by omega) (by omega)).symm, rfl, by rw [C.R.l (by omega) (by omega)]; rfl⟩ hp (by rw [kid0 (.inr (.inr (.inl h1)))]; exact Lks.nil), ev_str⟩
  · rw [len0 C (kid0 (.inr (.inr (.inl h1))))]; exact (by decide : 1 + 6 <= 12 * 1)
theorem n_var (C : Cx M l i x) (h1 : x.kind = 4) : NG E M l i x := by
  refine ⟨[uN x.nm], ?_, ?_, ?_⟩
  · rw [C.tx, body_4 h1]
    intro b vs hb hv
    exact lx_tok (is_name (C.R.nm (by omega)) hb) hv
  · rw [h1]
    refine nk7 ⟨_, _, rfl, .inr (.inr (.inl rfl))⟩ fun d hd ts rest hts => ?_
    obtain ⟨p, t2, rfl, hp, h2⟩ := hts.cons
    obtain rfl := h2.nil
    exact ⟨_, node_lk C.hk C.hx (y := { mk 4 p with nm := x.nm }) ⟨h1.symm, (C.R.n (by omega) (by omega) (by omega)).symm, rfl, (C.R.s (by omega)).symm, by rw [C.R.l (by omega) (by omega)]; rfl⟩ hp (by rw [kid0 (.inr (.inr (.inr h1)))]; exact Lks.nil), ev_var⟩
  · rw [len0 C (kid0 (.inr (.inr (.inr h1))))]; exact (by decide : 1 + 6 <= 12 * 1)
theorem n_fun (C : Cx M l i x) (h1 : x.kind = 5) (A : Ch E M l (dpt l i) x.a usa ya) : NG E M l i x := by
  refine ⟨uW w_fun :: uN x.nm :: uS s_arrow :: cu ya 0 usa, ?_, ?_, ?_⟩
  · rw [C.tx, body_5 h1]
    intro b vs hb hv
    rw [app2, app2, app2]
    exact lx_tok (w := w_fun) (key_ok (by decide +kernel) (ends_32 _)) (lx_blank (lx_tok (w := x.nm.data.toList) (is_name (C.R.nm (by omega)) (ends_32 _)) (lx_blank (lx_tok (w := [45, 62]) (is_arrow _) (lx_blank (A.t 0 b vs hb hv))))))
  · rw [h1]
    refine nk0 fun d hd ts rest hts hf => ?_
    obtain ⟨p, t2, rfl, hp, h2⟩ := hts.cons
    obtain ⟨q, t3, rfl, _, h3⟩ := h2.cons
    obtain ⟨r, t4, rfl, _, h4⟩ := h3.cons
    obtain ⟨t, k1, k2⟩ := A.e0 (d := d + 1) (by omega) t4 rest h4 hf
    exact ⟨_, node_lk C.hk C.hx (y := { mk 5 p with nm := x.nm }) ⟨h1.symm, (C.R.n (by omega) (by omega) (by omega)).symm, rfl, (C.R.s (by omega)).symm, by rw [C.R.l (by omega) (by omega)]; rfl⟩ hp (by rw [kid1 (.inl h1)]; exact lks1 k1), ev_fun (by have := A.d1; have := A.d2; omega) k2⟩
  · have e1 := A.ln
    have e2 := cu_len ya 0 usa
    rw [len1 C (kid1 (.inl h1))]
    simp only [List.length_cons]
    omega
theorem n_app (C : Cx M l i x) (h1 : x.kind = 6) (A : Ch E M l (dpt l i) x.a usa ya) (B : Ch E M l (dpt l i) x.b usb yb) : NG E M l i x := by
  refine ⟨cu ya 5 usa ++ cu yb 6 usb, ?_, ?_, ?_⟩
  · rw [C.tx, body_6 h1]
    intro b vs hb hv
    rw [app2, app2, List.append_assoc]
    exact A.t 5 _ _ (ends_32 _) (lx_blank (B.t 6 b vs hb hv))
  · rw [h1]
    refine nk5 (bg_app (bg_bru A.nk (by decide))) fun d hd ts rest hts hf => ?_
    obtain ⟨ta, tb, rfl, h2, h3⟩ := hts.app
    obtain ⟨hb1, _, hb3⟩ := bg_ts (rest := rest) h3 (bg_bru B.nk (by decide))
    obtain ⟨t, k1, k2⟩ := A.b5 (d := d) hd ta (tb ++ rest) h2 hb3
    obtain ⟨u, k3, k4⟩ := B.p6 (d := d) hd tb rest h3
    refine ⟨_, node_lk C.hk C.hx (y := mk 6 (lastP t)) ⟨h1.symm, (C.R.n (by omega) (by omega) (by omega)).symm, (C.R.no (by omega) (by omega)).symm, (C.R.s (by omega)).symm, by rw [C.R.l (by omega) (by omega)]; rfl⟩ (k1.lastP C.M0) (by rw [kid2 (.inl h1)]; exact lks2 k1 k3), fun r hr => ?_⟩
    rw [List.append_assoc]
    exact k2 r (ev_app1 hb1 (k4 _ (ev_post0 hf)) hr)
  · have e1 := A.ln
    have e2 := cu_len ya 5 usa
    have e3 := B.ln
    have e4 := cu_len yb 6 usb
    rw [len2 C (kid2 (.inl h1))]
    simp only [List.length_append]
    omega
theorem n_let (C : Cx M l i x) (h1 : x.kind = 7) (A : Ch E M l (dpt l i) x.a usa ya) (B : Ch E M l (dpt l i) x.b usb yb) : NG E M l i x := by
  refine ⟨uW w_let :: uN x.nm :: uS s_eqs :: (cu ya 0 usa ++ (uW w_in :: cu yb 0 usb)), ?_, ?_, ?_⟩
  · rw [C.tx, body_7 h1]
    intro b vs hb hv
    rw [app2, app2, app2, app2, app2]
    have e : (uW w_let :: uN x.nm :: uS s_eqs :: (cu ya 0 usa ++ (uW w_in :: cu yb 0 usb))) ++ vs = uW w_let :: uN x.nm :: uS s_eqs :: (cu ya 0 usa ++ (uW w_in :: (cu yb 0 usb ++ vs))) := by simp
    rw [e]
    exact lx_tok (w := w_let) (key_ok (by decide +kernel) (ends_32 _)) (lx_blank (lx_tok (w := x.nm.data.toList) (is_name (C.R.nm (by omega)) (ends_32 _)) (lx_blank (lx_tok (w := [61]) (is_dash 61 _ (.inr rfl)) (lx_blank (A.t 0 _ _ (ends_32 _) (lx_blank (lx_tok (w := w_in) (key_ok (by decide +kernel) (ends_32 _)) (lx_blank (B.t 0 b vs hb hv))))))))))
  · rw [h1]
    refine nk0 fun d hd ts rest hts hf => ?_
    obtain ⟨p, t2, rfl, hp, h2⟩ := hts.cons
    obtain ⟨q, t3, rfl, _, h3⟩ := h2.cons
    obtain ⟨r, t4, rfl, _, h4⟩ := h3.cons
    obtain ⟨ta, t5, rfl, h5, h6⟩ := h4.app
    obtain ⟨s, tb, rfl, _, h7⟩ := h6.cons
    obtain ⟨t, k1, k2⟩ := A.e0 (d := d + 1) (by omega) ta (tW w_in s :: (tb ++ rest)) h5 (fe_of rfl)
    obtain ⟨u, k3, k4⟩ := B.e0 (d := d + 1) (by omega) tb rest h7 hf
    refine ⟨_, node_lk C.hk C.hx (y := { mk 7 p with nm := x.nm }) ⟨h1.symm, (C.R.n (by omega) (by omega) (by omega)).symm, rfl, (C.R.s (by omega)).symm, by rw [C.R.l (by omega) (by omega)]; rfl⟩ hp (by rw [kid2 (.inr (.inl h1))]; exact lks2 k1 k3), ?_⟩
    have := ev_let (p := p) (q := q) (r := r) (nm := x.nm) (by have := A.d1; have := A.d2; omega) k2 k4
    simp only [List.cons_append, List.append_assoc] at this ⊢
    exact this
  · have e1 := A.ln
    have e2 := cu_len ya 0 usa
    have e3 := B.ln
    have e4 := cu_len yb 0 usb
    rw [len2 C (kid2 (.inr (.inl h1)))]
    simp only [List.length_cons, List.length_append]
    omega
theorem lastK_cp (hk : kidsOk l) {k : Nat} {y : Nd} (hy : l[k]? = some y) : lastK (cp l k []) = y.kind := by
  rw [cp_eq hy (fun m hm => hk k y hy m hm)]
  unfold lastK
  rw [List.getLast?_append]
  rfl
theorem n_rec (C : Cx M l i x) (h1 : x.kind = 8) (A : Ch E M l (dpt l i) x.a usa ya) (B : Ch E M l (dpt l i) x.b usb yb) (h5 : ya.kind = 5) : NG E M l i x := by
  refine ⟨uW w_let :: uW w_rec :: uN x.nm :: uS s_eqs :: (cu ya 0 usa ++ (uW w_in :: cu yb 0 usb)), ?_, ?_, ?_⟩
  · rw [C.tx, body_8 h1]
    intro b vs hb hv
    rw [app2, app2, app2, app2, app2]
    have e : (uW w_let :: uW w_rec :: uN x.nm :: uS s_eqs :: (cu ya 0 usa ++ (uW w_in :: cu yb 0 usb))) ++ vs = uW w_let :: uW w_rec :: uN x.nm :: uS s_eqs :: (cu ya 0 usa ++ (uW w_in :: (cu yb 0 usb ++ vs))) := by simp
    rw [e]
    exact lx_tok (w := w_let) (key_ok (by decide +kernel) (ends_32 _)) (lx_blank (lx_tok (w := w_rec) (key_ok (by decide +kernel) (ends_32 _)) (lx_blank (lx_tok (w := x.nm.data.toList) (is_name (C.R.nm (by omega)) (ends_32 _)) (lx_blank (lx_tok (w := [61]) (is_dash 61 _ (.inr rfl)) (lx_blank (A.t 0 _ _ (ends_32 _) (lx_blank (lx_tok (w := w_in) (key_ok (by decide +kernel) (ends_32 _)) (lx_blank (B.t 0 b vs hb hv))))))))))))
  · rw [h1]
    refine nk0 fun d hd ts rest hts hf => ?_
    obtain ⟨p, t2, rfl, hp, h2⟩ := hts.cons
    obtain ⟨o, t2, rfl, _, h2⟩ := h2.cons
    obtain ⟨q, t3, rfl, _, h3⟩ := h2.cons
    obtain ⟨r, t4, rfl, _, h4⟩ := h3.cons
    obtain ⟨ta, t5, rfl, h5', h6⟩ := h4.app
    obtain ⟨s, tb, rfl, _, h7⟩ := h6.cons
    obtain ⟨t, k1, k2⟩ := A.e0 (d := d + 1) (by omega) ta (tW w_in s :: (tb ++ rest)) h5' (fe_of rfl)
    obtain ⟨u, k3, k4⟩ := B.e0 (d := d + 1) (by omega) tb rest h7 hf
    refine ⟨_, node_lk C.hk C.hx (y := { mk 8 p with nm := x.nm }) ⟨h1.symm, (C.R.n (by omega) (by omega) (by omega)).symm, rfl, (C.R.s (by omega)).symm, by rw [C.R.l (by omega) (by omega)]; rfl⟩ hp (by rw [kid2 (.inr (.inr (.inl h1)))]; exact lks2 k1 k3), ?_⟩
    have := ev_rec (p := p) (o := o) (q := q) (r := r) (nm := x.nm) (by have := A.d1; have := A.d2; omega) (k1.lastK.trans ((lastK_cp C.hk A.hy).trans h5)) k2 k4
    simp only [List.cons_append, List.append_assoc] at this ⊢
    exact this
  · have e1 := A.ln
    have e2 := cu_len ya 0 usa
    have e3 := B.ln
    have e4 := cu_len yb 0 usb
    rw [len2 C (kid2 (.inr (.inr (.inl h1))))]
    simp only [List.length_cons, List.length_append]
    omega
theorem n_if (C : Cx M l i x) (h1 : x.kind = 9) (A : Ch E M l (dpt l i) x.a usa ya) (B : Ch E M l (dpt l i) x.b usb yb) (D : Ch E M l (dpt l i) x.c usc yc) : NG E M l i x := by
  refine ⟨uW w_if :: (cu ya 0 usa ++ (uW w_then :: (cu yb 0 usb ++ (uW w_else :: cu yc 0 usc)))), ?_, ?_, ?_⟩
  · rw [C.tx, body_9 h1]
    intro b vs hb hv
    rw [app2, app2, app2, app2, app2]
    have e : (uW w_if :: (cu ya 0 usa ++ (uW w_then :: (cu yb 0 usb ++ (uW w_else :: cu yc 0 usc))))) ++ vs = uW w_if :: (cu ya 0 usa ++ (uW w_then :: (cu yb 0 usb ++ (uW w_else :: (cu yc 0 usc ++ vs))))) := by simp
    rw [e]
    exact lx_tok (w := w_if) (key_ok (by decide +kernel) (ends_32 _)) (lx_blank (A.t 0 _ _ (ends_32 _) (lx_blank (lx_tok (w := w_then) (key_ok (by decide +kernel) (ends_32 _)) (lx_blank (B.t 0 _ _ (ends_32 _) (lx_blank (lx_tok (w := w_else) (key_ok (by decide +kernel) (ends_32 _)) (lx_blank (D.t 0 b vs hb hv))))))))))
  · rw [h1]
    refine nk0 fun d hd ts rest hts hf => ?_
    obtain ⟨p, t2, rfl, hp, h2⟩ := hts.cons
    obtain ⟨ta, t5, rfl, h5, h6⟩ := h2.app
    obtain ⟨q, t6, rfl, _, h7⟩ := h6.cons
    obtain ⟨tb, t7, rfl, h8, h9⟩ := h7.app
    obtain ⟨r, tc, rfl, _, h10⟩ := h9.cons
    obtain ⟨t, k1, k2⟩ := A.e0 (d := d + 1) (by omega) ta (tW w_then q :: (tb ++ (tW w_else r :: (tc ++ rest)))) h5 (fe_of rfl)
    obtain ⟨u, k3, k4⟩ := B.e0 (d := d + 1) (by omega) tb (tW w_else r :: (tc ++ rest)) h8 (fe_of rfl)
    obtain ⟨v, k5, k6⟩ := D.e0 (d := d + 1) (by omega) tc rest h10 hf
    refine ⟨_, node_lk C.hk C.hx (y := mk 9 p) ⟨h1.symm, (C.R.n (by omega) (by omega) (by omega)).symm, (C.R.no (by omega) (by omega)).symm, (C.R.s (by omega)).symm, by rw [C.R.l (by omega) (by omega)]; rfl⟩ hp (by rw [kid3 h1]; exact lks3 k1 k3 k5), ?_⟩
    have := ev_if (p := p) (by have := A.d1; have := A.d2; omega) k2 k4 k6
    simp only [List.cons_append, List.append_assoc] at this ⊢
    exact this
  · have e1 := A.ln
    have e2 := cu_len ya 0 usa
    have e3 := B.ln
    have e4 := cu_len yb 0 usb
    have e5 := D.ln
    have e6 := cu_len yc 0 usc
    rw [len3 C (kid3 h1)]
    simp only [List.length_cons, List.length_append]
    omega
theorem n_get (C : Cx M l i x) (h1 : x.kind = 12) (A : Ch E M l (dpt l i) x.a usa ya) : NG E M l i x := by
  refine ⟨cu ya 6 usa ++ [uS s_dot, uN x.nm], ?_, ?_, ?_⟩
  · rw [C.tx, body_12 h1]
    intro b vs hb hv
    rw [app2, app2, List.append_assoc]
    exact A.t 6 _ _ (ends_46 _) (lx_tok (w := [46]) (is_one 46 _ (by decide)) (lx_tok (is_name (C.R.nm (by omega)) hb) hv))
  · rw [h1]
    refine nk6 (bg_app (bg_bru A.nk (by decide))) fun d hd ts rest hts => ?_
    obtain ⟨ta, t2, rfl, h2, h3⟩ := hts.app
    obtain ⟨p, t3, rfl, hp, h4⟩ := h3.cons
    obtain ⟨q, t4, rfl, _, h5⟩ := h4.cons
    obtain rfl := h5.nil
    obtain ⟨t, k1, k2⟩ := A.p6 (d := d) hd ta (tS s_dot p :: tN x.nm q :: rest) h2
    refine ⟨_, node_lk C.hk C.hx (y := { mk 12 p with nm := x.nm }) ⟨h1.symm, (C.R.n (by omega) (by omega) (by omega)).symm, rfl, (C.R.s (by omega)).symm, by rw [C.R.l (by omega) (by omega)]; rfl⟩ hp (by rw [kid1 (.inr (.inl h1))]; exact lks1 k1), fun r hr => ?_⟩
    rw [List.append_assoc]
    exact k2 r (ev_post1 (t := tS s_dot p) (u := tN x.nm q) (isy rfl) rfl hr)
  · have e1 := A.ln
    have e2 := cu_len ya 6 usa
    rw [len1 C (kid1 (.inr (.inl h1)))]
    simp only [List.length_cons, List.length_append, List.length_nil]
    omega
theorem n_tag (C : Cx M l i x) (h1 : x.kind = 13) (A : Ch E M l (dpt l i) x.a usa ya) : NG E M l i x := by
  refine ⟨uT x.nm :: cu ya 6 usa, ?_, ?_, ?_⟩
  · rw [C.tx, body_13 h1]
    intro b vs hb hv
    rw [app2, app2]
    exact lx_tok (is_tag (C.R.tag h1) (ends_32 _)) (lx_blank (A.t 6 b vs hb hv))
  · rw [h1]
    refine nk4 ⟨_, _, rfl, .inr rfl⟩ fun d hd ts rest hts hf => ?_
    obtain ⟨p, ta, rfl, hp, h2⟩ := hts.cons
    obtain ⟨t, k1, k2⟩ := A.p6 (d := d) hd ta rest h2
    exact ⟨_, node_lk C.hk C.hx (y := { mk 13 p with nm := x.nm }) ⟨h1.symm, (C.R.n (by omega) (by omega) (by omega)).symm, rfl, (C.R.s (by omega)).symm, by rw [C.R.l (by omega) (by omega)]; rfl⟩ hp (by rw [kid1 (.inr (.inr h1))]; exact lks1 k1), ev_tag (t := tT x.nm p) rfl (k2 _ (ev_post0 hf.1))⟩
  · have e1 := A.ln
    have e2 := cu_len ya 6 usa
    rw [len1 C (kid1 (.inr (.inr h1)))]
    simp only [List.length_cons]
    omega
end
end Go.Proofs.YtjakeidbajkdcaaGreatDoor.Y
