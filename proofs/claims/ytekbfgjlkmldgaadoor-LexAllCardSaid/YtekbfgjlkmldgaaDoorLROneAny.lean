/- one, the document's, of every place of a text: the token there. -/
import Derived.Test.YtekbfgjlkmldgaaDoorLRNum
namespace Go.Proofs.YtekbfgjlkmldgaaDoor.L
open Go.RowKit
def posOf (r : R) (p : Nat) : Int := if r.e = 0 then (p : Int) else 0
theorem ep_ok {k : Int} {t : ByteArray} {n : Int} {l p : Nat} {B : Nat} {w : World} : EP k t n (posOf ⟨k, t, n, l, 0⟩ p) l 0 B w = EP k t n p l 0 B w := rfl
theorem lt_of_wl {x : ByteArray} (h : 0 < M.wl x) : (M.begW (M.fst x) || M.begT (M.fst x)) = true := by
  by_cases h' : (M.begW (M.fst x) || M.begT (M.fst x)) = true
  · exact h'
  · rw [M.wl, if_neg (fun z => h' z.2)] at h; omega
theorem begW_cases {n : Nat} (h : M.begW n = true) : 97 ≤ n ∨ n = 95 := by simp only [M.begW, decide_eq_true_eq] at h; omega
theorem begT_cases {n : Nat} (h : M.begT n = true) : 65 ≤ n ∧ n ≤ 90 := by simpa only [M.begT, decide_eq_true_eq] using h
set_option maxHeartbeats 1000000 in
theorem rone_any {B : Nat} (s x : ByteArray) (p : Nat) (hs : s.size ≤ 140737488351232) (hp : p < s.size) (hx : s.extract p s.size = x) (w : World) (hB : B ≤ w.heap.size) :
    Calls Tryd.prog 16 #[.string s, .int .i64 (p : Int)] w (EP (tok x).k (tok x).t (tok x).n (posOf (tok x) p) (tok x).long (tok x).e B w) := by
  have hxs : x.size = s.size - p := by rw [← hx, size_extract]; omega
  have h0 : 0 < x.size := by omega
  have HS : Hid (x.size ≤ 140737488351232) := Lib.hid (by omega)
  have hf := M.fst_at h0
  have hle := M.wl_le x
  have hp' : p ≤ s.size := by omega
  rw [tok]
  by_cases h1 : 0 < M.wl x
  · rw [if_pos h1]
    have hsz : (x.extract 0 (M.wl x)).size = M.wl x := by rw [size_extract]; omega
    have hbw := lt_of_wl h1
    have hfy : M.fst (x.extract 0 (M.wl x)) = M.fst x := by
      rw [M.fst_at (by omega), M.fst_at h0, ByteArray.getElem_extract]
    rw [wordR, hsz, hfy]
    by_cases h20 : 20 < M.wl x
    · have hk : ¬ M.kwB (x.extract 0 (M.wl x)) = true := fun h => by have := kw_short h; omega
      rw [if_neg hk, if_pos h20]
      exact one_w7 s x p hp' hx h0 HS w hB _ h1 hle _ rfl (Lib.hid rfl) h20
    · by_cases hk : M.kwB (x.extract 0 (M.wl x)) = true
      · rw [if_pos hk]
        exact one_w1 s x p hp' hx h0 HS w hB _ h1 hle _ rfl (Lib.hid rfl) (by omega) (Lib.hid hk)
      · rw [if_neg hk, if_neg h20]
        have hk' : M.kwB (x.extract 0 (M.wl x)) = false := by simpa using hk
        by_cases ht : M.begT (M.fst x) = true
        · rw [if_pos ht]
          have := begT_cases ht
          exact one_w3 s x p hp' hx h0 HS w hB _ h1 hle _ rfl (Lib.hid rfl) (by omega) (Lib.hid hk') (by omega) (by omega)
        · rw [if_neg ht]
          have ht' : M.begT (M.fst x) = false := by simpa using ht
          rw [ht', Bool.or_false] at hbw
          have := begW_cases hbw
          exact one_w2 s x p hp' hx h0 HS w hB _ h1 hle _ rfl (Lib.hid rfl) (by omega) (Lib.hid hk') (by omega) (by omega)
  · rw [if_neg h1]
    have HL : Hid (M.wl x = 0) := Lib.hid (by omega)
    by_cases h39 : M.fst x = 39
    · rw [if_pos h39]
      obtain ⟨z, hz⟩ : ∃ z, x.extract 1 x.size = z := ⟨_, rfl⟩
      have hzs : z.size = x.size - 1 := by rw [← hz, size_extract]; omega
      have hzl := M.wl_le z
      have HZ : Hid (z.size ≤ 140737488351232) := Lib.hid (by omega)
      have q39 : ((x[0].toNat : Int) == 39) = true := eqb (b := 39) (by rw [← hf]; exact h39)
      rw [varR, hz]
      by_cases hm : M.wl z = 0
      · rw [if_pos (Or.inl hm)]
        exact one_v0 s x p hp' hx h0 HS w hB HL q39 z hz HZ (Lib.hid hm)
      · have hx1 : 1 < x.size := by omega
        have hz0 : 0 < z.size := by omega
        have hfz : M.fst z = x[1].toNat := by
          rw [M.fst_at hz0]
          subst hz
          rw [ByteArray.getElem_extract]
        have hbz := lt_of_wl (x := z) (by omega)
        have hm0 : ((M.wl z : Int) == 0) = false := by simpa using hm
        by_cases ht : M.begT (M.fst z) = true
        · rw [if_pos (Or.inr ht)]
          have := begT_cases ht
          exact one_v1 s x p hp' hx h0 HS w hB HL q39 z hz HZ _ (Lib.hid rfl) hm0 hx1 (by omega) (by omega)
        · rw [if_neg (by rintro (h | h); exact hm h; exact ht h)]
          have ht' : M.begT (M.fst z) = false := by simpa using ht
          rw [ht', Bool.or_false] at hbz
          have := begW_cases hbz
          by_cases h20 : 20 < M.wl z
          · rw [if_pos h20]
            exact one_v2 s x p hp' hx h0 HS w hB HL q39 z hz HZ _ (Lib.hid rfl) hm0 hx1 (by omega) (by omega) h20
          · rw [if_neg h20]
            exact one_v3 s x p hp' hx h0 HS w hB HL q39 z hz HZ _ (Lib.hid rfl) hm0 hx1 (by omega) (by omega) (by omega) (by omega) _ rfl
    · rw [if_neg h39]
      have n39 : ((x[0].toNat : Int) == 39) = false := neb (b := 39) (by rw [← hf]; exact h39)
      by_cases hd : M.fst x = 126 ∨ M.isD (M.fst x) = true
      · rw [if_pos hd]
        have hl := dl_le x 1 h0
        obtain ⟨y, hy⟩ : ∃ y, x.extract 0 (1 + dl x 1) = y := ⟨_, rfl⟩
        have hys : y.size = 1 + dl x 1 := by rw [← hy, size_extract]; omega
        rw [hy]
        have HC : Hid (∀ w1, Below B w w1 → B ≤ w1.heap.size → Calls Tryd.prog 23 #[.string y] w1 fun e w' => e = .returned (.tuple #[.int .i64 (W.pv y.data.toList), .int .i64 (W.pe y.data.toList)]) ∧ Below w1.heap.size w1 w') :=
          Lib.hid fun w1 _ _ => W.rparse_any y (by omega) w1
        rw [numR, hys]
        generalize W.pv y.data.toList = v at *
        generalize W.pe y.data.toList = q at *
        by_cases hq : q = 0
        · subst hq
          rw [if_pos rfl]
          by_cases hdd : M.isD (M.fst x) = true
          · have := M.isD_iff.1 hdd
            exact one_nd0 s x p hp' hx h0 HS w hB HL HS.out n39 (by omega) (by omega) _ (Lib.hid rfl) hl y (Lib.hid hy) v HC
          · have h126 : M.fst x = 126 := by rcases hd with h | h; exact h; exact absurd h hdd
            exact one_nt0 s x p hp' hx h0 HS w hB HL HS.out n39 (by omega) (by omega) (eqb (b := 126) (by rw [← hf]; exact h126)) _ (Lib.hid rfl) hl y (Lib.hid hy) v HC
        · rw [if_neg hq]
          have e : posOf (bad q) p = 0 := by rw [posOf, if_neg (show ¬ (bad q).e = 0 from hq)]
          rw [e]
          have hq' : (q != 0) = true := by simpa using hq
          by_cases hdd : M.isD (M.fst x) = true
          · have := M.isD_iff.1 hdd
            exact one_nd1 s x p hp' hx h0 HS w hB HL HS.out n39 (by omega) (by omega) _ (Lib.hid rfl) hl y (Lib.hid hy) v q hq' HC
          · have h126 : M.fst x = 126 := by rcases hd with h | h; exact h; exact absurd h hdd
            exact one_nt1 s x p hp' hx h0 HS w hB HL HS.out n39 (by omega) (by omega) (eqb (b := 126) (by rw [← hf]; exact h126)) _ (Lib.hid rfl) hl y (Lib.hid hy) v q hq' HC
      · rw [if_neg hd]
        have h126 : M.fst x ≠ 126 := fun h => hd (Or.inl h)
        have hnd : ¬ (48 ≤ M.fst x ∧ M.fst x ≤ 57) := fun h => hd (Or.inr (M.isD_iff.2 h))
        have n126 : ((x[0].toNat : Int) == 126) = false := neb (b := 126) (by rw [← hf]; exact h126)
        by_cases h34 : M.fst x = 34
        · rw [if_pos h34]
          have q34 : ((x[0].toNat : Int) == 34) = true := eqb (b := 34) (by rw [← hf]; exact h34)
          have HC : Hid (∀ w1 : World, Calls Tryd.prog 24 #[.string x] w1 (Q.TkPost (Q.tq x.data.toList) w1.heap.size w1)) := Lib.hid fun w1 => Q.rtake_any x (by omega) w1 (Nat.le_refl _)
          rw [strR]
          unfold Q.TkPost Q.TkEnd at HC
          generalize Q.tT (Q.tq x.data.toList) = T at *
          generalize Q.tN (Q.tq x.data.toList) = m at *
          generalize Q.tE (Q.tq x.data.toList) = q at *
          by_cases hq : q = 0
          · subst hq
            rw [if_pos rfl]
            exact one_t0 s x p hp' hx h0 HS w hB HL n39 n126 (by omega) q34 _ m HC
          · rw [if_neg hq]
            have e : posOf (bad q) p = 0 := by rw [posOf, if_neg (show ¬ (bad q).e = 0 from hq)]
            rw [e]
            exact one_t1 s x p hp' hx h0 HS w hB HL n39 n126 (by omega) q34 _ m q (by simpa using hq) HC
        · rw [if_neg h34]
          have n34 : ((x[0].toNat : Int) == 34) = false := neb (b := 34) (by rw [← hf]; exact h34)
          have hsg : sg x ≤ x.size := by
            rcases Nat.eq_zero_or_pos (sg x) with h | h
            · omega
            · unfold sg at h ⊢
              split
              · rename_i h2
                unfold two at h2
                rw [Bool.or_eq_true] at h2
                have := M.size_len x
                rcases h2 with h2 | h2 <;> (have := pre_le h2; simp at this; omega)
              · split <;> omega
          rw [signR]
          by_cases hz : sg x = 0
          · rw [if_pos hz]
            by_cases h48 : M.fst x < 48
            · exact one_s0a s x p hp' hx h0 HS w hB HL n39 n126 n34 (Lib.hid hz) (by omega)
            · exact one_s0b s x p hp' hx h0 HS w hB HL n39 n126 n34 (Lib.hid hz) (by omega) (by omega)
          · rw [if_neg hz]
            by_cases h48 : M.fst x < 48
            · exact one_s1a s x p hp' hx h0 HS w hB HL n39 n126 n34 _ (Lib.hid rfl) (by omega) hsg _ rfl (by omega)
            · exact one_s1b s x p hp' hx h0 HS w hB HL n39 n126 n34 _ (Lib.hid rfl) (by omega) hsg _ rfl (by omega) (by omega)
end Go.Proofs.YtekbfgjlkmldgaaDoor.L
