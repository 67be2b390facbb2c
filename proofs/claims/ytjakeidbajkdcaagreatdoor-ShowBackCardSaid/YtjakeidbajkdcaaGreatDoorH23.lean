/- Joined by program. -/
import Derived.Below
namespace Go.Proofs.YtjakeidbajkdcaaGreatDoor.Q
def bare (c : UInt8) : Prop := 32 <= c.toNat /\ c.toNat <= 126 /\ c.toNat ≠ 34 /\ c.toNat ≠ 92
instance (c : UInt8) : Decidable (bare c) := by unfold bare; infer_instance
def hexd (n : Nat) : UInt8 := if n < 10 then UInt8.ofNat (48 + n) else UInt8.ofNat (87 + n)
def hx (c : UInt8) : Int := if 48 <= c.toNat /\ c.toNat <= 57 then c.toNat - 48 else if 97 <= c.toNat /\ c.toNat <= 102 then c.toNat - 87 else -1
def wr1 (c : UInt8) : List UInt8 :=
  if c.toNat = 34 then [92, 34] else if c.toNat = 92 then [92, 92] else if c.toNat = 10 then [92, 110] else if c.toNat = 9 then [92, 116]
  else if bare c then [c] else [92, 120, hexd (c.toNat / 16), hexd (c.toNat % 16)]
def wrt (l : List UInt8) : List UInt8 := l.flatMap wr1
def qtext (l : List UInt8) : List UInt8 := (34 :: wrt l) ++ [34]
theorem wr_nil : wrt [] = [] := rfl
theorem wr_snoc (l : List UInt8) (c : UInt8) : wrt (l ++ [c]) = wrt l ++ wr1 c := by simp [wrt]
theorem wr1_len (c : UInt8) : (wr1 c).length <= 4 := by
  unfold wr1
  repeat' split
  all_goals simp
theorem wr1_pos (c : UInt8) : 1 <= (wr1 c).length := by
  unfold wr1
  repeat' split
  all_goals simp
theorem wrt_len : ∀ l : List UInt8, (wrt l).length <= 4 * l.length
  | [] => by simp [wrt]
  | c :: r => by
    have h1 := wrt_len r
    have h2 := wr1_len c
    have : wrt (c :: r) = wr1 c ++ wrt r := by simp [wrt]
    rw [this, List.length_append, List.length_cons]; omega
theorem qtext_len (l : List UInt8) : (qtext l).length <= 4 * l.length + 2 := by
  have := wrt_len l
  simp [qtext]; omega
def rk : List UInt8 -> Nat
  | [] => 0
  | c :: r => if bare c then 1 else if c.toNat = 92 then
      match r with
      | [] => 0
      | d :: r2 => if d.toNat = 34 ∨ d.toNat = 92 ∨ d.toNat = 110 ∨ d.toNat = 116 then 2 else if d.toNat = 120 then
          match r2 with
          | a :: b :: _ => if 0 <= hx a /\ 0 <= hx b then 4 else 0
          | _ => 0
        else 0
    else 0
def rb : List UInt8 -> UInt8
  | [] => 0
  | c :: r => if bare c then c else if c.toNat = 92 then
      match r with
      | [] => 0
      | d :: r2 => if d.toNat = 34 ∨ d.toNat = 92 then d else if d.toNat = 110 then 10 else if d.toNat = 116 then 9 else if d.toNat = 120 then
          match r2 with
          | a :: b :: _ => if 0 <= hx a /\ 0 <= hx b then UInt8.ofNat ((hx a).toNat * 16 + (hx b).toNat) else 0
          | _ => 0
        else 0
    else 0
theorem rk_le : ∀ l : List UInt8, rk l <= l.length := by
  intro l
  rcases l with _ | ⟨c, _ | ⟨d, _ | ⟨a, _ | ⟨b, r⟩⟩⟩⟩ <;> simp only [rk] <;> repeat' split
  all_goals simp
theorem rk_le4 (l : List UInt8) : rk l <= 4 := by
  rcases l with _ | ⟨c, _ | ⟨d, _ | ⟨a, _ | ⟨b, r⟩⟩⟩⟩ <;> simp only [rk] <;> repeat' split
  all_goals simp
def tk : Nat -> List UInt8 -> List UInt8 -> Nat -> Option (List UInt8 × Nat)
  | 0, _, _, _ => none
  | f + 1, l, acc, n => match l with
    | [] => none
    | c :: r => if c.toNat = 34 then some (acc, n + 1) else if rk (c :: r) = 0 then none
      else tk f ((c :: r).drop (rk (c :: r))) (acc ++ [rb (c :: r)]) (n + rk (c :: r))
theorem tk_end {f : Nat} {acc : List UInt8} {n : Nat} : tk f [] acc n = none := by
  cases f <;> rfl
theorem tk_quote {f : Nat} {c : UInt8} {r acc : List UInt8} {n : Nat} (hf : 0 < f) (h : c.toNat = 34) : tk f (c :: r) acc n = some (acc, n + 1) := by
  obtain ⟨f, rfl⟩ : ∃ g, f = g + 1 := ⟨f - 1, by omega⟩
  simp [tk, h]
theorem tk_bad {f : Nat} {c : UInt8} {r acc : List UInt8} {n : Nat} (h : c.toNat ≠ 34) (hk : rk (c :: r) = 0) : tk f (c :: r) acc n = none := by
  cases f with
  | zero => rfl
  | succ f => simp [tk, h, hk]
theorem tk_step {f : Nat} {c : UInt8} {r acc : List UInt8} {n : Nat} (hf : r.length + 1 < f) (h : c.toNat ≠ 34) (hk : rk (c :: r) ≠ 0) :
    tk f (c :: r) acc n = tk (f - 1) ((c :: r).drop (rk (c :: r))) (acc ++ [rb (c :: r)]) (n + rk (c :: r)) := by
  obtain ⟨f, rfl⟩ : ∃ g, f = g + 1 := ⟨f - 1, by omega⟩
  simp [tk, h, hk]
theorem tk_fuel : ∀ (f g : Nat) (l acc : List UInt8) (n : Nat), l.length < f -> l.length < g -> tk f l acc n = tk g l acc n
  | 0, _, _, _, _, h, _ => by omega
  | _, 0, _, _, _, _, h => by omega
  | f + 1, g + 1, [], _, _, _, _ => rfl
  | f + 1, g + 1, c :: r, acc, n, h1, h2 => by
    simp only [tk]
    split
    · rfl
    · split
      · rfl
      · rename_i hk
        simp only [List.length_cons] at h1 h2
        exact tk_fuel f g _ _ _ (by rw [List.length_drop, List.length_cons]; omega) (by rw [List.length_drop, List.length_cons]; omega)
def tkAt (l : List UInt8) (i : Nat) (acc : List UInt8) : Option (List UInt8 × Nat) := tk (l.length + 1) (l.drop i) acc i
theorem at_end {l acc : List UInt8} {i : Nat} (h : l.length <= i) : tkAt l i acc = none := by
  rw [tkAt, List.drop_of_length_le h, tk_end]
theorem at_quote {l acc r : List UInt8} {i : Nat} {c : UInt8} (hd : l.drop i = c :: r) (h : c.toNat = 34) : tkAt l i acc = some (acc, i + 1) := by
  rw [tkAt, hd, tk_quote (by omega) h]
theorem at_bad {l acc r : List UInt8} {i : Nat} {c : UInt8} (hd : l.drop i = c :: r) (h : c.toNat ≠ 34) (hk : rk (l.drop i) = 0) : tkAt l i acc = none := by
  rw [hd] at hk
  rw [tkAt, hd, tk_bad h hk]
theorem at_step {l acc r : List UInt8} {i : Nat} {c : UInt8} (hd : l.drop i = c :: r) (h : c.toNat ≠ 34) (hk : rk (l.drop i) ≠ 0) :
    tkAt l i acc = tkAt l (i + rk (l.drop i)) (acc ++ [rb (l.drop i)]) := by
  have hl : (l.drop i).length = r.length + 1 := by rw [hd]; rfl
  rw [List.length_drop] at hl
  rw [tkAt, tkAt, <- List.drop_drop]
  rw [hd] at hk ⊢
  rw [tk_step (by omega) h hk]
  refine tk_fuel _ _ _ _ _ ?_ ?_
  · rw [List.length_drop, List.length_cons]; omega
  · rw [List.length_drop, List.length_cons]; omega
theorem tk_len : ∀ (f : Nat) (l acc : List UInt8) (n : Nat) (t : List UInt8) (m : Nat), tk f l acc n = some (t, m) -> t.length + n + 1 <= acc.length + m /\ m <= n + l.length
  | 0, _, _, _, _, _, h => by simp [tk] at h
  | f + 1, [], _, _, _, _, h => by simp [tk] at h
  | f + 1, c :: r, acc, n, t, m, h => by
    simp only [tk] at h
    split at h
    · injection h with h
      injection h with h1 h2
      subst h1 h2
      simp; omega
    · split at h
      · cases h
      · rename_i hk
        have hle := rk_le (c :: r)
        have := tk_len f _ _ _ _ _ h
        rw [List.length_append, List.length_singleton, List.length_drop] at this
        omega
def tq (l : List UInt8) : Option (List UInt8 × Nat) := match l with
  | [] => none
  | c :: _ => if c.toNat = 34 then tkAt l 1 [] else none
def tT (o : Option (List UInt8 × Nat)) : List UInt8 := match o with
  | none => []
  | some (t, _) => if 200 < t.length then [] else t
def tN (o : Option (List UInt8 × Nat)) : Nat := match o with
  | none => 0
  | some (t, n) => if 200 < t.length then 0 else n
def tE (o : Option (List UInt8 × Nat)) : Int := match o with
  | none => 5
  | some (t, _) => if 200 < t.length then 7 else 0
theorem hexd_lt : ∀ n : Nat, n < 16 -> (hx (hexd n) = n) := by decide
theorem rd_wr (c : UInt8) (r : List UInt8) : rk (wr1 c ++ r) = (wr1 c).length /\ rb (wr1 c ++ r) = c := by
  have hc : c.toNat < 256 := c.toNat_lt
  unfold wr1
  split
  · rename_i h; exact ⟨rfl, UInt8.toNat_inj.1 (by rw [h]; rfl)⟩
  split
  · rename_i h; exact ⟨rfl, UInt8.toNat_inj.1 (by rw [h]; rfl)⟩
  split
  · rename_i h; exact ⟨rfl, UInt8.toNat_inj.1 (by rw [h]; rfl)⟩
  split
  · rename_i h; exact ⟨rfl, UInt8.toNat_inj.1 (by rw [h]; rfl)⟩
  split
  · rename_i h
    simp [rk, rb, h]
  · have h1 := hexd_lt (c.toNat / 16) (by omega)
    have h2 := hexd_lt (c.toNat % 16) (by omega)
    have hb : ¬ bare 92 := by decide
    have h120 : (120 : UInt8).toNat = 120 := rfl
    have h92 : (92 : UInt8).toNat = 92 := rfl
    simp only [List.cons_append, List.nil_append, rk, rb, if_neg hb, h92, h120, h1, h2]
    have h3 : 0 <= ((c.toNat / 16 : Nat) : Int) /\ 0 <= ((c.toNat % 16 : Nat) : Int) := ⟨by omega, by omega⟩
    have h4 : ((c.toNat / 16 : Nat) : Int).toNat * 16 + ((c.toNat % 16 : Nat) : Int).toNat = c.toNat := by omega
    refine ⟨?_, ?_⟩
    · rw [if_pos trivial, if_neg (by omega), if_pos trivial, if_pos h3]; rfl
    · rw [if_pos trivial, if_neg (by omega), if_neg (by omega), if_neg (by omega), if_pos trivial, if_pos h3, h4, UInt8.ofNat_toNat]
theorem wr1_head (c : UInt8) : ∃ d r, wr1 c = d :: r /\ d.toNat ≠ 34 := by
  unfold wr1
  repeat' split
  · exact ⟨_, _, rfl, by decide⟩
  · exact ⟨_, _, rfl, by decide⟩
  · exact ⟨_, _, rfl, by decide⟩
  · exact ⟨_, _, rfl, by decide⟩
  · rename_i h; exact ⟨_, _, rfl, h.2.2.1⟩
  · exact ⟨_, _, rfl, by decide⟩
theorem tk_wr : ∀ (l : List UInt8) (f : Nat) (more acc : List UInt8) (n : Nat), (wrt l).length + 1 < f ->
    tk f (wrt l ++ 34 :: more) acc n = some (acc ++ l, n + (wrt l).length + 1)
  | [], f, more, acc, n, h => by
    simp only [wr_nil, List.nil_append, List.append_nil, List.length_nil]
    exact tk_quote (by omega) rfl
  | c :: r, f, more, acc, n, h => by
    have e : wrt (c :: r) = wr1 c ++ wrt r := by simp [wrt]
    obtain ⟨d, q, hd, h34⟩ := wr1_head c
    rw [e] at h ⊢
    rw [List.length_append] at h
    obtain ⟨g, rfl⟩ : ∃ g, f = g + 1 := ⟨f - 1, by omega⟩
    obtain ⟨h1, h2⟩ := rd_wr c (wrt r ++ 34 :: more)
    have hp := wr1_pos c
    rw [List.append_assoc]
    generalize hX : wr1 c ++ (wrt r ++ 34 :: more) = X at *
    have hX2 : X = d :: (q ++ (wrt r ++ 34 :: more)) := by rw [<- hX, hd]; rfl
    have hdr : X.drop (rk X) = wrt r ++ 34 :: more := by rw [h1, <- hX, List.drop_left]
    rw [hX2] at h1 h2 hdr ⊢
    simp only [tk]
    rw [if_neg h34, if_neg (by omega), hdr, h2, tk_wr r g more _ _ (by omega), h1]
    simp only [List.append_assoc, List.length_append, List.singleton_append]
    congr 2
    omega
theorem tq_qtext (l more : List UInt8) : tq (qtext l ++ more) = some (l, (qtext l).length) := by
  have e : qtext l ++ more = 34 :: (wrt l ++ 34 :: more) := by simp [qtext]
  rw [e]
  have h34 : (34 : UInt8).toNat = 34 := rfl
  simp only [tq]
  rw [if_pos h34, tkAt, List.drop_succ_cons, List.drop_zero, tk_wr l _ more [] 1 (by simp; omega)]
  simp [qtext]; omega
end Go.Proofs.YtjakeidbajkdcaaGreatDoor.Q
