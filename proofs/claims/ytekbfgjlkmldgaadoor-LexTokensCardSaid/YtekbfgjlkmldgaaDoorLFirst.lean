/- number, first: what is answered of digits; the token with which a text begins. -/
import Derived.Test.YtekbfgjlkmldgaaDoorLSign
import Derived.LoopTactic
namespace Go.Proofs.YtekbfgjlkmldgaaDoor.L
open Go.RowKit
set_option maxHeartbeats 2000000 in
theorem number_ok {B : Nat} (s t : ByteArray) (n : Nat) (v : Int) (hs : s.size ≤ 140737488351232) (h0 : 1 ≤ s.size) (HN : Hid (n = 1 + dl s 1)) (hn : n ≤ s.size) (HTT : Hid (s.extract 0 n = t)) (w : World) (hB : B ≤ w.heap.size)
    (HC : Hid (∀ w1, Below B w w1 → B ≤ w1.heap.size → Calls Tryd.prog 48 #[.string t] w1 fun e w' => e = .returned (.tuple #[.int .i64 v, .int .i64 0]) ∧ Below w1.heap.size w1 w')) :
    Calls Tryd.prog 31 #[.string s] w (FP ⟨4, ⟨#[]⟩, v, n, 0⟩ B w) := by
  go_enter Tryd.func31, Tryd.ntmps31
  go_wp2
  go_loop [5] (fun i => ∃ k : Nat, 1 ≤ k ∧ k ≤ s.size ∧ i = .int .i64 k ∧ Hid (n = k + dl s k)) (fun i => s.size - (intOf i).toNat)
  case atStart => exact ⟨1, by omega, by omega, rfl, HN⟩
  case round =>
    obtain ⟨k, hk1, hk, rfl, HK⟩ := hrel
    by_cases hlt : k < s.size
    · cases hg : M.isD s[k].toNat with
      | true =>
        have HN' : Hid (n = (k + 1 : Nat) + dl s (k + 1)) := by have := HK.out; rw [dl_go hlt hg] at this; exact Lib.hid (by omega)
        have HG := Lib.hid hg
        clear hg
        go_wp2_with (go_at_call 26; refine (digit_is HG.out _).mono ?_; rintro e w' ⟨rfl, rfl⟩)
        go_round
        case rel => exact ⟨k + 1, by omega, by omega, by go_num, HN'⟩
        case measure => simp [intOf]; omega
      | false =>
        have hk2 : n = k := by have := HK.out; rw [dl_stop hlt hg] at this; omega
        subst hk2
        have ht := HTT.out
        have HG := Lib.hid hg
        clear hg
        go_wp2_with (first
          | (go_at_call 26; refine (digit_is HG.out _).mono ?_; rintro e w' ⟨rfl, rfl⟩)
          | (go_at_call 48; refine (HC.out _ ((Below.refl _ _).alloc hB _) (by simp; omega)).mono ?_; rintro e w' ⟨rfl, hb⟩; obtain ⟨hc, hf⟩ := bcell hb))
        exact bodyPost_ret (v := .tuple #[.agg #[.int .i64 4, .string ⟨#[]⟩, .int .i64 v, .int .i64 0], .int .i64 (n : Int), .int .i64 0]) (by simp [results, Tryd.results31, go_sem, hc]) rfl ⟨rfl, below4 hB hb (by simp) _ _ _ _⟩
    · have hk2 : n = k := by have := HK.out; rw [dl_end (by omega)] at this; omega
      subst hk2
      have ht := HTT.out
      go_wp2_with (first
        | (go_at_call 48; refine (HC.out _ ((Below.refl _ _).alloc hB _) (by simp; omega)).mono ?_; rintro e w' ⟨rfl, hb⟩; obtain ⟨hc, hf⟩ := bcell hb))
      exact bodyPost_ret (v := .tuple #[.agg #[.int .i64 4, .string ⟨#[]⟩, .int .i64 v, .int .i64 0], .int .i64 (n : Int), .int .i64 0]) (by simp [results, Tryd.results31, go_sem, hc]) rfl ⟨rfl, below4 hB hb (by simp) _ _ _ _⟩
set_option maxHeartbeats 2000000 in
theorem number_no {B : Nat} (s t : ByteArray) (n : Nat) (v x : Int) (hx : (x != 0) = true) (hs : s.size ≤ 140737488351232) (h0 : 1 ≤ s.size) (HN : Hid (n = 1 + dl s 1)) (hn : n ≤ s.size) (HTT : Hid (s.extract 0 n = t)) (w : World) (hB : B ≤ w.heap.size)
    (HC : Hid (∀ w1, Below B w w1 → B ≤ w1.heap.size → Calls Tryd.prog 48 #[.string t] w1 fun e w' => e = .returned (.tuple #[.int .i64 v, .int .i64 x]) ∧ Below w1.heap.size w1 w')) :
    Calls Tryd.prog 31 #[.string s] w (FP (bad x) B w) := by
  go_enter Tryd.func31, Tryd.ntmps31
  go_wp2
  go_loop [5] (fun i => ∃ k : Nat, 1 ≤ k ∧ k ≤ s.size ∧ i = .int .i64 k ∧ Hid (n = k + dl s k)) (fun i => s.size - (intOf i).toNat)
  case atStart => exact ⟨1, by omega, by omega, rfl, HN⟩
  case round =>
    obtain ⟨k, hk1, hk, rfl, HK⟩ := hrel
    by_cases hlt : k < s.size
    · cases hg : M.isD s[k].toNat with
      | true =>
        have HN' : Hid (n = (k + 1 : Nat) + dl s (k + 1)) := by have := HK.out; rw [dl_go hlt hg] at this; exact Lib.hid (by omega)
        have HG := Lib.hid hg
        clear hg
        go_wp2_with (go_at_call 26; refine (digit_is HG.out _).mono ?_; rintro e w' ⟨rfl, rfl⟩)
        go_round
        case rel => exact ⟨k + 1, by omega, by omega, by go_num, HN'⟩
        case measure => simp [intOf]; omega
      | false =>
        have hk2 : n = k := by have := HK.out; rw [dl_stop hlt hg] at this; omega
        subst hk2
        have ht := HTT.out
        have HG := Lib.hid hg
        clear hg
        go_wp2_with (first
          | (go_at_call 26; refine (digit_is HG.out _).mono ?_; rintro e w' ⟨rfl, rfl⟩)
          | (go_at_call 48; refine (HC.out _ ((Below.refl _ _).alloc hB _) (by simp; omega)).mono ?_; rintro e w1 ⟨rfl, hb1⟩)
          | (go_at_call 47; refine (refused_x x _).mono ?_; rintro e w' ⟨rfl, hb2⟩; have hb := hb1.trans (hb2.mono hb1.size); obtain ⟨hc, hf⟩ := bcell hb))
        exact bodyPost_ret (v := .tuple #[.agg #[.int .i64 0, .string ⟨#[]⟩, .int .i64 0, .int .i64 0], .int .i64 0, .int .i64 x]) (by simp [results, Tryd.results31, go_sem, hc]) rfl ⟨rfl, below4 hB hb (by simp) _ _ _ _⟩
    · have hk2 : n = k := by have := HK.out; rw [dl_end (by omega)] at this; omega
      subst hk2
      have ht := HTT.out
      go_wp2_with (first
        | (go_at_call 48; refine (HC.out _ ((Below.refl _ _).alloc hB _) (by simp; omega)).mono ?_; rintro e w1 ⟨rfl, hb1⟩)
        | (go_at_call 47; refine (refused_x x _).mono ?_; rintro e w' ⟨rfl, hb2⟩; have hb := hb1.trans (hb2.mono hb1.size); obtain ⟨hc, hf⟩ := bcell hb))
      exact bodyPost_ret (v := .tuple #[.agg #[.int .i64 0, .string ⟨#[]⟩, .int .i64 0, .int .i64 0], .int .i64 0, .int .i64 x]) (by simp [results, Tryd.results31, go_sem, hc]) rfl ⟨rfl, below4 hB hb (by simp) _ _ _ _⟩
theorem number_any {B : Nat} (s : ByteArray) (hs : s.size ≤ 140737488351232) (h0 : 1 ≤ s.size) (w : World) (hB : B ≤ w.heap.size) (hP : Pow B w) :
    Calls Tryd.prog 31 #[.string s] w (FP (numR (s.extract 0 (1 + dl s 1))) B w) := by
  have hle := dl_le s 1 h0
  obtain ⟨t, ht⟩ : ∃ t, s.extract 0 (1 + dl s 1) = t := ⟨_, rfl⟩
  have hts : t.size = 1 + dl s 1 := by rw [← ht, size_extract]; omega
  rw [ht]
  have HC : Hid (∀ w1, Below B w w1 → B ≤ w1.heap.size → Calls Tryd.prog 48 #[.string t] w1 fun e w' => e = .returned (.tuple #[.int .i64 (W.pv t.data.toList), .int .i64 (W.pe t.data.toList)]) ∧ Below w1.heap.size w1 w') :=
    Lib.hid fun w1 hb h1 => W.parse_any t (by omega) w1 (fun w' h' => (hP.on hb) w' (h'.mono h1)) (Nat.le_refl _)
  rw [numR]
  generalize W.pv t.data.toList = v at *
  generalize W.pe t.data.toList = x at *
  by_cases hx : x = 0
  · subst hx
    rw [if_pos rfl, hts]
    exact number_ok s t _ v hs h0 (Lib.hid rfl) hle (Lib.hid ht) w hB HC
  · rw [if_neg hx]
    exact number_no s t _ v x (by simpa using hx) hs h0 (Lib.hid rfl) hle (Lib.hid ht) w hB HC
/-- The listed variables lie as they are laid, below block B. -/
def On (B : Nat) (w : World) : Prop := Kws B w ∧ Pow B w
theorem On.on {B : Nat} {w w1 : World} (h : On B w) (hb : Below B w w1) : On B w1 := ⟨h.1.on hb, h.2.on hb⟩
theorem On.up {B B' : Nat} {w : World} (h : On B w) (hb : B ≤ B') : On B' w := ⟨⟨Nat.lt_of_lt_of_le h.1.1 hb, h.1.2⟩, fun w' h' => h.2 w' (h'.mono hb)⟩
/-- A call that answers the token r, wherever it is called. -/
def Gives (f : Nat) (a : ByteArray) (B : Nat) (w : World) (k : Int) (t : ByteArray) (n : Int) (l : Nat) (x : Int) : Prop :=
  ∀ w1, Below B w w1 → B ≤ w1.heap.size → Calls Tryd.prog f #[.string a] w1 fun e w' => e = .returned (.tuple #[.agg #[.int .i64 k, .string t, .int .i64 n, .int .i64 0], .int .i64 (l : Int), .int .i64 x]) ∧ Below w1.heap.size w1 w'
set_option maxHeartbeats 1000000 in
theorem first_w {B : Nat} (s : ByteArray) (k : Int) (t : ByteArray) (n : Int) (l : Nat) (x : Int) (hs : s.size ≤ 140737488351232) (_ : 0 < s.size) (w : World) (hB : B ≤ w.heap.size) (m : Nat) (hm : 0 < m) (hms : m ≤ s.size) (y : ByteArray) (hy : s.extract 0 m = y) (HL : Hid (M.wl s = m)) (HC : Hid (Gives 29 y B w k t n l x)) :
    Calls Tryd.prog 20 #[.string s] w (FP ⟨k, t, n, l, x⟩ B w) := by
  have HS := Lib.hid hs
  go_enter Tryd.func20, Tryd.ntmps20
  go_wp2_with (first
    | (go_at_call 28; refine (M.word_is HL.out HS.out _).mono ?_; rintro e w' ⟨rfl, rfl⟩)
    | (go_at_call 29; refine (HC.out _ ((Below.refl _ _).alloc hB _) (by simp; omega)).mono ?_; rintro e w' ⟨rfl, hb⟩; obtain ⟨hc, hf⟩ := bcell hb))
  exact bodyPost_ret (v := .tuple #[.agg #[.int .i64 k, .string t, .int .i64 n, .int .i64 0], .int .i64 (l : Int), .int .i64 x]) (by simp [results, Tryd.results20, go_sem, hc]) rfl ⟨rfl, below4 hB hb (by simp) _ _ _ _⟩
set_option maxHeartbeats 1000000 in
theorem first_v {B : Nat} (s : ByteArray) (k : Int) (t : ByteArray) (n : Int) (l : Nat) (x : Int) (hs : s.size ≤ 140737488351232) (h0 : 0 < s.size) (w : World) (hB : B ≤ w.heap.size) (HL : Hid (M.wl s = 0)) (h39 : ((s[0].toNat : Int) == 39) = true) (HC : Hid (Gives 30 s B w k t n l x)) :
    Calls Tryd.prog 20 #[.string s] w (FP ⟨k, t, n, l, x⟩ B w) := by
  have HS := Lib.hid hs
  go_enter Tryd.func20, Tryd.ntmps20
  go_wp2_with (first
    | (go_at_call 28; refine (M.word_is HL.out HS.out _).mono ?_; rintro e w' ⟨rfl, rfl⟩)
    | (go_at_call 30; refine (HC.out _ ((Below.refl _ _).alloc hB _) (by simp; omega)).mono ?_; rintro e w' ⟨rfl, hb⟩; obtain ⟨hc, hf⟩ := bcell hb))
  exact bodyPost_ret (v := .tuple #[.agg #[.int .i64 k, .string t, .int .i64 n, .int .i64 0], .int .i64 (l : Int), .int .i64 x]) (by simp [results, Tryd.results20, go_sem, hc]) rfl ⟨rfl, below4 hB hb (by simp) _ _ _ _⟩
set_option maxHeartbeats 1000000 in
theorem first_n1 {B : Nat} (s : ByteArray) (k : Int) (t : ByteArray) (n : Int) (l : Nat) (x : Int) (hs : s.size ≤ 140737488351232) (h0 : 0 < s.size) (w : World) (hB : B ≤ w.heap.size) (HL : Hid (M.wl s = 0)) (h39 : ((s[0].toNat : Int) == 39) = false) (h126 : ((s[0].toNat : Int) == 126) = true) (HC : Hid (Gives 31 s B w k t n l x)) :
    Calls Tryd.prog 20 #[.string s] w (FP ⟨k, t, n, l, x⟩ B w) := by
  have HS := Lib.hid hs
  go_enter Tryd.func20, Tryd.ntmps20
  go_wp2_with (first
    | (go_at_call 28; refine (M.word_is HL.out HS.out _).mono ?_; rintro e w' ⟨rfl, rfl⟩)
    | (go_at_call 31; refine (HC.out _ ((Below.refl _ _).alloc hB _) (by simp; omega)).mono ?_; rintro e w' ⟨rfl, hb⟩; obtain ⟨hc, hf⟩ := bcell hb))
  exact bodyPost_ret (v := .tuple #[.agg #[.int .i64 k, .string t, .int .i64 n, .int .i64 0], .int .i64 (l : Int), .int .i64 x]) (by simp [results, Tryd.results20, go_sem, hc]) rfl ⟨rfl, below4 hB hb (by simp) _ _ _ _⟩
set_option maxHeartbeats 1000000 in
theorem first_n2 {B : Nat} (s : ByteArray) (k : Int) (t : ByteArray) (n : Int) (l : Nat) (x : Int) (hs : s.size ≤ 140737488351232) (h0 : 0 < s.size) (w : World) (hB : B ≤ w.heap.size) (HL : Hid (M.wl s = 0)) (h39 : ((s[0].toNat : Int) == 39) = false) (h126 : ((s[0].toNat : Int) == 126) = false) (HD : Hid (M.isD s[0].toNat = true)) (HC : Hid (Gives 31 s B w k t n l x)) :
    Calls Tryd.prog 20 #[.string s] w (FP ⟨k, t, n, l, x⟩ B w) := by
  have HS := Lib.hid hs
  go_enter Tryd.func20, Tryd.ntmps20
  go_wp2_with (first
    | (go_at_call 28; refine (M.word_is HL.out HS.out _).mono ?_; rintro e w' ⟨rfl, rfl⟩)
    | (go_at_call 26; refine (digit_is HD.out _).mono ?_; rintro e w' ⟨rfl, rfl⟩)
    | (go_at_call 31; refine (HC.out _ ((Below.refl _ _).alloc hB _) (by simp; omega)).mono ?_; rintro e w' ⟨rfl, hb⟩; obtain ⟨hc, hf⟩ := bcell hb))
  exact bodyPost_ret (v := .tuple #[.agg #[.int .i64 k, .string t, .int .i64 n, .int .i64 0], .int .i64 (l : Int), .int .i64 x]) (by simp [results, Tryd.results20, go_sem, hc]) rfl ⟨rfl, below4 hB hb (by simp) _ _ _ _⟩
set_option maxHeartbeats 1000000 in
theorem first_t {B : Nat} (s : ByteArray) (k : Int) (t : ByteArray) (n : Int) (l : Nat) (x : Int) (hs : s.size ≤ 140737488351232) (h0 : 0 < s.size) (w : World) (hB : B ≤ w.heap.size) (HL : Hid (M.wl s = 0)) (h39 : ((s[0].toNat : Int) == 39) = false) (h126 : ((s[0].toNat : Int) == 126) = false) (HD : Hid (M.isD s[0].toNat = false)) (h34 : ((s[0].toNat : Int) == 34) = true) (HC : Hid (Gives 32 s B w k t n l x)) :
    Calls Tryd.prog 20 #[.string s] w (FP ⟨k, t, n, l, x⟩ B w) := by
  have HS := Lib.hid hs
  go_enter Tryd.func20, Tryd.ntmps20
  go_wp2_with (first
    | (go_at_call 28; refine (M.word_is HL.out HS.out _).mono ?_; rintro e w' ⟨rfl, rfl⟩)
    | (go_at_call 26; refine (digit_is HD.out _).mono ?_; rintro e w' ⟨rfl, rfl⟩)
    | (go_at_call 32; refine (HC.out _ ((Below.refl _ _).alloc hB _) (by simp; omega)).mono ?_; rintro e w' ⟨rfl, hb⟩; obtain ⟨hc, hf⟩ := bcell hb))
  exact bodyPost_ret (v := .tuple #[.agg #[.int .i64 k, .string t, .int .i64 n, .int .i64 0], .int .i64 (l : Int), .int .i64 x]) (by simp [results, Tryd.results20, go_sem, hc]) rfl ⟨rfl, below4 hB hb (by simp) _ _ _ _⟩
set_option maxHeartbeats 1000000 in
theorem first_s {B : Nat} (s : ByteArray) (k : Int) (t : ByteArray) (n : Int) (l : Nat) (x : Int) (hs : s.size ≤ 140737488351232) (h0 : 0 < s.size) (w : World) (hB : B ≤ w.heap.size) (HL : Hid (M.wl s = 0)) (h39 : ((s[0].toNat : Int) == 39) = false) (h126 : ((s[0].toNat : Int) == 126) = false) (HD : Hid (M.isD s[0].toNat = false)) (h34 : ((s[0].toNat : Int) == 34) = false) (HC : Hid (Gives 33 s B w k t n l x)) :
    Calls Tryd.prog 20 #[.string s] w (FP ⟨k, t, n, l, x⟩ B w) := by
  have HS := Lib.hid hs
  go_enter Tryd.func20, Tryd.ntmps20
  go_wp2_with (first
    | (go_at_call 28; refine (M.word_is HL.out HS.out _).mono ?_; rintro e w' ⟨rfl, rfl⟩)
    | (go_at_call 26; refine (digit_is HD.out _).mono ?_; rintro e w' ⟨rfl, rfl⟩)
    | (go_at_call 33; refine (HC.out _ ((Below.refl _ _).alloc hB _) (by simp; omega)).mono ?_; rintro e w' ⟨rfl, hb⟩; obtain ⟨hc, hf⟩ := bcell hb))
  exact bodyPost_ret (v := .tuple #[.agg #[.int .i64 k, .string t, .int .i64 n, .int .i64 0], .int .i64 (l : Int), .int .i64 x]) (by simp [results, Tryd.results20, go_sem, hc]) rfl ⟨rfl, below4 hB hb (by simp) _ _ _ _⟩
theorem gives_of {f : Nat} {a : ByteArray} {B : Nat} {w : World} {r : R} (h : ∀ w1, Below B w w1 → B ≤ w1.heap.size → Calls Tryd.prog f #[.string a] w1 (FP r w1.heap.size w1)) : Hid (Gives f a B w r.k r.t r.n r.long r.e) := Lib.hid h
theorem eqb {a b : Nat} (h : a = b) : ((a : Int) == (b : Int)) = true := by simp [h]
theorem neb {a b : Nat} (h : a ≠ b) : ((a : Int) == (b : Int)) = false := by simp; omega
theorem wl_word (s : ByteArray) (h : 0 < M.wl s) : M.wl (s.extract 0 (M.wl s)) = (s.extract 0 (M.wl s)).size := by
  have hle := M.wl_le s
  have h0 : 0 < s.size := by omega
  have hb : (M.begW (M.fst s) || M.begT (M.fst s)) = true := by
    by_cases h' : (M.begW (M.fst s) || M.begT (M.fst s)) = true
    · exact h'
    · rw [M.wl, if_neg (fun x => h' x.2)] at h; omega
  have hsz : (s.extract 0 (M.wl s)).size = M.wl s := by rw [size_extract]; omega
  have hw : M.wl s = 1 + M.more s 1 := M.wl_w h0 hb
  have hf : M.fst (s.extract 0 (M.wl s)) = M.fst s := by
    rw [M.fst_at (by omega), M.fst_at h0, ByteArray.getElem_extract]
  rw [hsz, M.wl_w (by omega) (by rw [hf]; exact hb), hw]
  rw [M.more, data_extract]
  have e : ((s.data.toList.drop 0).take (1 + M.more s 1 - 0)).drop 1 = (s.data.toList.drop 1).take (M.more s 1) := by
    rw [List.drop_zero, List.drop_take]; congr 1; omega
  rw [e]
  have h2 : M.more s 1 = ((s.data.toList.drop 1).takeWhile fun c => M.goes c.toNat).length := rfl
  rw [h2]
  generalize s.data.toList.drop 1 = l
  congr 1
  induction l with
  | nil => rfl
  | cons c r ih =>
    rw [List.takeWhile_cons]
    by_cases hc : M.goes c.toNat = true
    · rw [if_pos hc, List.length_cons, List.take_succ_cons, List.takeWhile_cons, if_pos hc, List.length_cons, ih]
    · rw [if_neg hc]; rfl
theorem first_any {B : Nat} (s : ByteArray) (hs : s.size ≤ 140737488351232) (h0 : 0 < s.size) (w : World) (hB : B ≤ w.heap.size) (hO : On B w) :
    Calls Tryd.prog 20 #[.string s] w (FP (tok s) B w) := by
  have hf := M.fst_at h0
  have hle := M.wl_le s
  rw [tok]
  by_cases h1 : 0 < M.wl s
  · rw [if_pos h1]
    have hsz : (s.extract 0 (M.wl s)).size = M.wl s := by rw [size_extract]; omega
    exact first_w s _ _ _ _ _ hs h0 w hB _ h1 hle _ rfl (Lib.hid rfl) (gives_of fun w1 hb h => word_any _ (by omega) (by omega) (wl_word s h1) w1 (Nat.le_refl _) ((hO.on hb).up h).1)
  · rw [if_neg h1]
    have HL : Hid (M.wl s = 0) := Lib.hid (by omega)
    by_cases h39 : M.fst s = 39
    · rw [if_pos h39]
      exact first_v s _ _ _ _ _ hs h0 w hB HL (eqb (by rw [← hf]; exact h39)) (gives_of fun w1 _ _ => var_any s hs h0 w1 (Nat.le_refl _))
    · rw [if_neg h39]
      have n39 : ((s[0].toNat : Int) == 39) = false := neb (b := 39) (by rw [← hf]; exact h39)
      by_cases h126 : M.fst s = 126
      · rw [if_pos (Or.inl h126)]
        exact first_n1 s _ _ _ _ _ hs h0 w hB HL n39 (eqb (by rw [← hf]; exact h126)) (gives_of fun w1 hb h => number_any s hs h0 w1 (Nat.le_refl _) ((hO.on hb).up h).2)
      · have n126 : ((s[0].toNat : Int) == 126) = false := neb (b := 126) (by rw [← hf]; exact h126)
        by_cases hd : M.isD (M.fst s) = true
        · rw [if_pos (Or.inr hd)]
          exact first_n2 s _ _ _ _ _ hs h0 w hB HL n39 n126 (Lib.hid (by rw [← hf]; exact hd)) (gives_of fun w1 hb h => number_any s hs h0 w1 (Nat.le_refl _) ((hO.on hb).up h).2)
        · rw [if_neg (by rintro (h | h); exact h126 h; exact hd h)]
          have nd : Hid (M.isD s[0].toNat = false) := Lib.hid (by rw [← hf]; simpa using hd)
          by_cases h34 : M.fst s = 34
          · rw [if_pos h34]
            exact first_t s _ _ _ _ _ hs h0 w hB HL n39 n126 nd (eqb (by rw [← hf]; exact h34)) (gives_of fun w1 _ _ => text_any s hs w1 (Nat.le_refl _))
          · rw [if_neg h34]
            exact first_s s _ _ _ _ _ hs h0 w hB HL n39 n126 nd (neb (b := 34) (by rw [← hf]; exact h34)) (gives_of fun w1 _ _ => sign_any s hs h0 w1 (Nat.le_refl _))
end Go.Proofs.YtekbfgjlkmldgaaDoor.L
