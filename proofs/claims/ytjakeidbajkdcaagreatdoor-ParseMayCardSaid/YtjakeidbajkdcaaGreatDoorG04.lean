/- Joined by program: PKids, PKidsP. -/
import Derived.Test.YtjakeidbajkdcaaGreatDoorG03
import Derived.Laws.CopyOwn
import Derived.Laws.CopyRow
/- Kids, the program's: the places of a node's children. -/
namespace Go.Proofs.YtjakeidbajkdcaaGreatDoor.T
open Go.RowKit
/-- How many of A, B and C are children. -/
def ownN (k : Int) : Nat := if k = 5 ∨ k = 12 ∨ k = 13 ∨ k = 14 then 1 else if k = 6 ∨ k = 7 ∨ k = 8 ∨ k = 10 then 2 else if k = 9 then 3 else 0
def partsB (k : Int) : Bool := decide (k = 11 ∨ k = 14)
theorem ownN_le (k : Int) : ownN k ≤ 3 := by unfold ownN; split; omega; split; omega; split <;> omega
theorem neI {k m : Int} (h : k ≠ m) : (k == m) = false := by simpa using h
set_option maxHeartbeats 1000000 in
theorem ownKids_any (k : Int) (w : World) : Calls Tryz.prog 103 #[.int .i64 k] w fun e w' => e = .returned (.int .i64 (ownN k : Nat)) ∧ w = w' := by
  by_cases h1 : k = 5 ∨ k = 12 ∨ k = 13 ∨ k = 14
  · rcases h1 with rfl | rfl | rfl | rfl
    all_goals
      go_enter Tryz.func103, Tryz.ntmps103
      go_wp2
      go_ret
      exact ⟨rfl, rfl⟩
  · by_cases h2 : k = 6 ∨ k = 7 ∨ k = 8 ∨ k = 10
    · rcases h2 with rfl | rfl | rfl | rfl
      all_goals
        go_enter Tryz.func103, Tryz.ntmps103
        go_wp2
        go_ret
        exact ⟨rfl, rfl⟩
    · by_cases h3 : k = 9
      · subst h3
        go_enter Tryz.func103, Tryz.ntmps103
        go_wp2
        go_ret
        exact ⟨rfl, rfl⟩
      · have e : ownN k = 0 := by unfold ownN; rw [if_neg h1, if_neg h2, if_neg h3]
        rw [e]
        have q1 := neI (k := k) (m := 5) (by omega)
        have q2 := neI (k := k) (m := 12) (by omega)
        have q3 := neI (k := k) (m := 13) (by omega)
        have q4 := neI (k := k) (m := 14) (by omega)
        have q5 := neI (k := k) (m := 6) (by omega)
        have q6 := neI (k := k) (m := 7) (by omega)
        have q7 := neI (k := k) (m := 8) (by omega)
        have q8 := neI (k := k) (m := 10) (by omega)
        have q9 := neI (k := k) (m := 9) (by omega)
        clear h1 h2 h3 e
        go_enter Tryz.func103, Tryz.ntmps103
        go_wp2
        go_ret
        exact ⟨rfl, rfl⟩
theorem hasParts_any (k : Int) (w : World) : Calls Tryz.prog 104 #[.int .i64 k] w fun e w' => e = .returned (.bool (partsB k)) ∧ w = w' := by
  by_cases h1 : k = 11
  · subst h1
    go_enter Tryz.func104, Tryz.ntmps104
    go_wp2
    go_ret
    exact ⟨rfl, rfl⟩
  · by_cases h2 : k = 14
    · subst h2
      go_enter Tryz.func104, Tryz.ntmps104
      go_wp2
      go_ret
      exact ⟨rfl, rfl⟩
    · have e : partsB k = false := by unfold partsB; exact decide_eq_false (by omega)
      rw [e]
      have q1 := neI h1
      have q2 := neI h2
      clear h1 h2 e
      go_enter Tryz.func104, Tryz.ntmps104
      go_wp2
      go_ret
      exact ⟨rfl, rfl⟩
theorem ownKids_is {k : Int} {m : Nat} (h : ownN k = m) (w : World) : Calls Tryz.prog 103 #[.int .i64 k] w fun e w' => e = .returned (.int .i64 (m : Int)) ∧ w = w' := by subst h; exact ownKids_any k w
theorem hasParts_is {k : Int} {b : Bool} (h : partsB k = b) (w : World) : Calls Tryz.prog 104 #[.int .i64 k] w fun e w' => e = .returned (.bool b) ∧ w = w' := by subst h; exact hasParts_any k w
theorem ints_of {B g n : Nat} {W : World} {l : List Int} (h : W.heap[g]? = some (.cells (l.map (Value.int .i64)).toArray 3)) (hB : B ≤ g) (hn : n = l.length) (hm : l.length ≤ maxLen) : Ints B W (.slice (some ⟨g, 0, none⟩) n n) l := by
  subst hn
  exact ⟨by simp, .inr ⟨g, l.length, _, rfl, hB, h, Nat.le_refl _, hm, by simp, by rw [Nat.mul_one]; exact List.take_of_length_le (by simp)⟩⟩
theorem splice_all {α : Type} (L cs : List α) (h : L.length = cs.length) : splice L 0 cs = cs := by
  unfold splice
  simp [h]
theorem oneInt {l : List Int} : ∀ v ∈ l.map (Value.int .i64), v.oneCell' = true := fun v hv => by
  obtain ⟨i, _, rfl⟩ := List.mem_map.1 hv
  rfl
theorem kids_own (x : Nd) : kids0 x = [x.a, x.b, x.c].take (ownN x.kind) := by
  unfold kids0 ownN
  split
  · rfl
  · split
    · rfl
    · split <;> rfl
theorem sz3 : (Tryz.prog.info? 3).map (·.size) = some 1 := by kernel_rfl
theorem mk0 (w : World) : (Instr.makeSlice 74 (.int .i64 0) (.int .i64 0)).run Tryz.prog w = .ok (.slice (some ⟨w.heap.size, 0, none⟩) 0 0) (w.alloc (.cells #[] 3)) := by kernel_rfl
theorem mk1 (w : World) : (Instr.makeSlice 74 (.int .i64 1) (.int .i64 1)).run Tryz.prog w = .ok (.slice (some ⟨w.heap.size, 0, none⟩) 1 1) (w.alloc (.cells #[.int .i64 0] 3)) := by kernel_rfl
theorem mk2 (w : World) : (Instr.makeSlice 74 (.int .i64 2) (.int .i64 2)).run Tryz.prog w = .ok (.slice (some ⟨w.heap.size, 0, none⟩) 2 2) (w.alloc (.cells #[.int .i64 0, .int .i64 0] 3)) := by kernel_rfl
theorem mk3 (w : World) : (Instr.makeSlice 74 (.int .i64 3) (.int .i64 3)).run Tryz.prog w = .ok (.slice (some ⟨w.heap.size, 0, none⟩) 3 3) (w.alloc (.cells #[.int .i64 0, .int .i64 0, .int .i64 0] 3)) := by kernel_rfl
/-- Whole numbers copied into a block of the call's own. -/
theorem copy_at (W : World) (g dl dc : Nat) (A : Addr) (sl sc : Nat) (cur cs : List Value) (t : TypeId) (hg : W.heap[g]? = some (.cells cur.toArray t)) (hn : cs.length = Nat.min sl dl)
    (hsrc : ∀ (j : Nat) (v : Value), cs[j]? = some v → W.cell? (A.add j) = some v) (hfit : cs.length ≤ cur.length) (h1 : ∀ v ∈ cs, v.oneCell' = true) :
    ∃ W', Sem.run Tryz.prog (Builtin.copy_ #[74, 74] 3 #[.slice (some ⟨g, 0, none⟩) dl dc, .slice (some A) sl sc]) W = .ok (.int .i64 (cs.length : Int)) W' ∧ W'.heap[g]? = some (.cells (splice cur 0 cs).toArray t) ∧ Below g W W' ∧ ∀ k, k ≠ g → W'.heap[k]? = W.heap[k]? := by
  refine ⟨_, run_copy_row Tryz.prog W 74 74 3 3 g 0 dl dc A sl sc cur.toArray t cs Tryz.underlying74 sz3 hg hn hsrc (by simpa using hfit) h1, ?_, below_setRow (Below.refl g W) (Nat.le_refl g) _, fun k hk => setRow_other W g k _ hk⟩
  have h := setRow_heap W g _ (cur.toArray.toList.take 0 ++ cs ++ cur.toArray.toList.drop (0 + cs.length)).toArray t (0, 0) hg
  rw [h]
  simp [splice]
/-- An array of three, cell for cell. -/
theorem arr3 (w : World) (a b c : Int) (m j : Nat) (v : Value) (hv : (([a, b, c].take m).map (Value.int .i64))[j]? = some v) : (w.alloc (.cells #[.int .i64 a, .int .i64 b, .int .i64 c] 115)).cell? ((⟨w.heap.size, 0, none⟩ : Addr).add j) = some v :=
  new_cellsT w 115 [.int .i64 a, .int .i64 b, .int .i64 c] w.heap.size rfl j v (by
    rw [List.map_take, List.getElem?_take] at hv
    split at hv
    · exact hv
    · cases hv)
theorem cell_under (w : World) (o1 o2 : Obj) (b j : Nat) (hb : b < w.heap.size) : ((w.alloc o1).alloc o2).cell? ⟨b, j, none⟩ = w.cell? ⟨b, j, none⟩ :=
  (((Below.refl w.heap.size w).alloc (Nat.le_refl _) o1).alloc (by simp) o2).cell (p := ⟨b, j, none⟩) hb
theorem cell_under1 (w : World) (o1 : Obj) (b j : Nat) (hb : b < w.heap.size) : (w.alloc o1).cell? ⟨b, j, none⟩ = w.cell? ⟨b, j, none⟩ :=
  ((Below.refl w.heap.size w).alloc (Nat.le_refl _) o1).cell (p := ⟨b, j, none⟩) hb
theorem heap_new (w : World) (o : Obj) (p : Nat) (hp : p = w.heap.size) : (w.alloc o).heap[p]? = some o := by subst hp; exact heap_alloc_new w o
set_option maxRecDepth 100000 in
set_option maxHeartbeats 4000000 in
theorem pkids_0 {B : Nat} (k a b c n pos : Int) (nm s : ByteArray) (vl : Value) (HO : Hid (ownN k = 0)) (HP : Hid (partsB k = false)) (w : World) (hB : B ≤ w.heap.size) :
    Calls Tryz.prog 61 #[.agg #[.int .i64 k, .int .i64 a, .int .i64 b, .int .i64 c, .int .i64 n, .string nm, .string s, vl, .int .i64 pos]] w (KidsPost [] B w) := by
  have hmk := mk0
  have hcp : ∀ W : World, Sem.run Tryz.prog (Builtin.copy_ #[74, 74] 3 #[.slice (some ⟨w.heap.size + 1 + 1, 0, none⟩) 0 0, .slice (some ⟨w.heap.size + 1, 0, none⟩) 3 3]) W = .ok (.int .i64 0) W := fun W => by kernel_rfl
  go_enter Tryz.func61, Tryz.ntmps61
  go_wp2_with (first
    | (go_at_call 103; refine (ownKids_is HO.out _).mono ?_; rintro e w1 ⟨rfl, rfl⟩)
    | (go_at_call 104; refine (hasParts_is HP.out _).mono ?_; rintro e w1 ⟨rfl, rfl⟩))
  go_ret
  exact KidsPost.of rfl (w.heap.size + 1 + 1) 0 0 rfl rfl (Ints.at (B := B) _ _ 0 [] (by simp) rfl (by simp; omega) (by simp [maxLen])) (below3 hB _ _ _)
set_option maxRecDepth 100000 in
set_option maxHeartbeats 4000000 in
theorem pkids_1 {B : Nat} (k a b c n pos : Int) (nm s : ByteArray) (vl : Value) (HO : Hid (ownN k = 1)) (HP : Hid (partsB k = false)) (w : World) (hB : B ≤ w.heap.size) :
    Calls Tryz.prog 61 #[.agg #[.int .i64 k, .int .i64 a, .int .i64 b, .int .i64 c, .int .i64 n, .string nm, .string s, vl, .int .i64 pos]] w (KidsPost [a] B w) := by
  have hmk := mk1
  obtain ⟨w1, hw1⟩ : ∃ w1, w.alloc (.cells #[.int .i64 k, .int .i64 a, .int .i64 b, .int .i64 c, .int .i64 n, .string nm, .string s, vl, .int .i64 pos] 37) = w1 := ⟨_, rfl⟩
  have hs1 : w1.heap.size = w.heap.size + 1 := by rw [← hw1, World.size_alloc]
  obtain ⟨W4, hcp, hg4, hb4, _⟩ := copy_at ((w1.alloc (.cells #[.int .i64 a, .int .i64 b, .int .i64 c] 115)).alloc (.cells #[.int .i64 0] 3)) (w.heap.size + 1 + 1) 1 1 ⟨w.heap.size + 1, 0, none⟩ 3 3 [.int .i64 0] (([a] : List Int).map (Value.int .i64)) 3
    (heap_new _ _ _ (by simp [hs1])) rfl (fun j v hv => by
      rw [Addr.add_lit, Nat.zero_add, cell_under1 _ _ _ _ (by simp [hs1])]
      have h := arr3 w1 a b c 1 j v hv
      rw [Addr.add_lit, Nat.zero_add, hs1] at h
      exact h) (Nat.le_refl _) oneInt
  have hk0 : W4.cell? ⟨w.heap.size, 0, none⟩ = some (.int .i64 k) := by
    rw [hb4.cell (p := ⟨w.heap.size, 0, none⟩) (by simp; omega), cell_under _ _ _ _ _ (by omega), ← hw1]
    have h := new_cellsT w 37 (#[.int .i64 k, .int .i64 a, .int .i64 b, .int .i64 c, .int .i64 n, .string nm, .string s, vl, .int .i64 pos].toList) w.heap.size rfl 0 _ rfl
    rw [Addr.add_lit] at h
    exact h
  rw [← hw1] at hcp hb4
  have HB4 := Lib.hid hb4
  have HG4 := Lib.hid hg4
  clear hb4 hg4 hs1 hw1
  go_enter Tryz.func61, Tryz.ntmps61
  go_wp2_with (first
    | (go_at_call 103; refine (ownKids_is HO.out _).mono ?_; rintro e w1 ⟨rfl, rfl⟩)
    | (go_at_call 104; refine (hasParts_is HP.out _).mono ?_; rintro e w1 ⟨rfl, rfl⟩))
  go_ret
  refine KidsPost.of rfl (w.heap.size + 1 + 1) 1 1 rfl rfl (ints_of (l := [a]) ?_ (by omega) rfl (by simp [maxLen])) ((below3 hB _ _ _).trans (HB4.out.mono (by omega)))
  have h := HG4.out
  rw [splice_all _ _ (by simp)] at h
  exact h
set_option maxRecDepth 100000 in
set_option maxHeartbeats 4000000 in
theorem pkids_2 {B : Nat} (k a b c n pos : Int) (nm s : ByteArray) (vl : Value) (HO : Hid (ownN k = 2)) (HP : Hid (partsB k = false)) (w : World) (hB : B ≤ w.heap.size) :
    Calls Tryz.prog 61 #[.agg #[.int .i64 k, .int .i64 a, .int .i64 b, .int .i64 c, .int .i64 n, .string nm, .string s, vl, .int .i64 pos]] w (KidsPost [a, b] B w) := by
  have hmk := mk2
  obtain ⟨w1, hw1⟩ : ∃ w1, w.alloc (.cells #[.int .i64 k, .int .i64 a, .int .i64 b, .int .i64 c, .int .i64 n, .string nm, .string s, vl, .int .i64 pos] 37) = w1 := ⟨_, rfl⟩
  have hs1 : w1.heap.size = w.heap.size + 1 := by rw [← hw1, World.size_alloc]
  obtain ⟨W4, hcp, hg4, hb4, _⟩ := copy_at ((w1.alloc (.cells #[.int .i64 a, .int .i64 b, .int .i64 c] 115)).alloc (.cells #[.int .i64 0, .int .i64 0] 3)) (w.heap.size + 1 + 1) 2 2 ⟨w.heap.size + 1, 0, none⟩ 3 3 [.int .i64 0, .int .i64 0] (([a, b] : List Int).map (Value.int .i64)) 3
    (heap_new _ _ _ (by simp [hs1])) rfl (fun j v hv => by
      rw [Addr.add_lit, Nat.zero_add, cell_under1 _ _ _ _ (by simp [hs1])]
      have h := arr3 w1 a b c 2 j v hv
      rw [Addr.add_lit, Nat.zero_add, hs1] at h
      exact h) (Nat.le_refl _) oneInt
  have hk0 : W4.cell? ⟨w.heap.size, 0, none⟩ = some (.int .i64 k) := by
    rw [hb4.cell (p := ⟨w.heap.size, 0, none⟩) (by simp; omega), cell_under _ _ _ _ _ (by omega), ← hw1]
    have h := new_cellsT w 37 (#[.int .i64 k, .int .i64 a, .int .i64 b, .int .i64 c, .int .i64 n, .string nm, .string s, vl, .int .i64 pos].toList) w.heap.size rfl 0 _ rfl
    rw [Addr.add_lit] at h
    exact h
  rw [← hw1] at hcp hb4
  have HB4 := Lib.hid hb4
  have HG4 := Lib.hid hg4
  clear hb4 hg4 hs1 hw1
  go_enter Tryz.func61, Tryz.ntmps61
  go_wp2_with (first
    | (go_at_call 103; refine (ownKids_is HO.out _).mono ?_; rintro e w1 ⟨rfl, rfl⟩)
    | (go_at_call 104; refine (hasParts_is HP.out _).mono ?_; rintro e w1 ⟨rfl, rfl⟩))
  go_ret
  refine KidsPost.of rfl (w.heap.size + 1 + 1) 2 2 rfl rfl (ints_of (l := [a, b]) ?_ (by omega) rfl (by simp [maxLen])) ((below3 hB _ _ _).trans (HB4.out.mono (by omega)))
  have h := HG4.out
  rw [splice_all _ _ (by simp)] at h
  exact h
set_option maxRecDepth 100000 in
set_option maxHeartbeats 4000000 in
theorem pkids_3 {B : Nat} (k a b c n pos : Int) (nm s : ByteArray) (vl : Value) (HO : Hid (ownN k = 3)) (HP : Hid (partsB k = false)) (w : World) (hB : B ≤ w.heap.size) :
    Calls Tryz.prog 61 #[.agg #[.int .i64 k, .int .i64 a, .int .i64 b, .int .i64 c, .int .i64 n, .string nm, .string s, vl, .int .i64 pos]] w (KidsPost [a, b, c] B w) := by
  have hmk := mk3
  obtain ⟨w1, hw1⟩ : ∃ w1, w.alloc (.cells #[.int .i64 k, .int .i64 a, .int .i64 b, .int .i64 c, .int .i64 n, .string nm, .string s, vl, .int .i64 pos] 37) = w1 := ⟨_, rfl⟩
  have hs1 : w1.heap.size = w.heap.size + 1 := by rw [← hw1, World.size_alloc]
  obtain ⟨W4, hcp, hg4, hb4, _⟩ := copy_at ((w1.alloc (.cells #[.int .i64 a, .int .i64 b, .int .i64 c] 115)).alloc (.cells #[.int .i64 0, .int .i64 0, .int .i64 0] 3)) (w.heap.size + 1 + 1) 3 3 ⟨w.heap.size + 1, 0, none⟩ 3 3 [.int .i64 0, .int .i64 0, .int .i64 0] (([a, b, c] : List Int).map (Value.int .i64)) 3
    (heap_new _ _ _ (by simp [hs1])) rfl (fun j v hv => by
      rw [Addr.add_lit, Nat.zero_add, cell_under1 _ _ _ _ (by simp [hs1])]
      have h := arr3 w1 a b c 3 j v hv
      rw [Addr.add_lit, Nat.zero_add, hs1] at h
      exact h) (Nat.le_refl _) oneInt
  have hk0 : W4.cell? ⟨w.heap.size, 0, none⟩ = some (.int .i64 k) := by
    rw [hb4.cell (p := ⟨w.heap.size, 0, none⟩) (by simp; omega), cell_under _ _ _ _ _ (by omega), ← hw1]
    have h := new_cellsT w 37 (#[.int .i64 k, .int .i64 a, .int .i64 b, .int .i64 c, .int .i64 n, .string nm, .string s, vl, .int .i64 pos].toList) w.heap.size rfl 0 _ rfl
    rw [Addr.add_lit] at h
    exact h
  rw [← hw1] at hcp hb4
  have HB4 := Lib.hid hb4
  have HG4 := Lib.hid hg4
  clear hb4 hg4 hs1 hw1
  go_enter Tryz.func61, Tryz.ntmps61
  go_wp2_with (first
    | (go_at_call 103; refine (ownKids_is HO.out _).mono ?_; rintro e w1 ⟨rfl, rfl⟩)
    | (go_at_call 104; refine (hasParts_is HP.out _).mono ?_; rintro e w1 ⟨rfl, rfl⟩))
  go_ret
  refine KidsPost.of rfl (w.heap.size + 1 + 1) 3 3 rfl rfl (ints_of (l := [a, b, c]) ?_ (by omega) rfl (by simp [maxLen])) ((below3 hB _ _ _).trans (HB4.out.mono (by omega)))
  have h := HG4.out
  rw [splice_all _ _ (by simp)] at h
  exact h
end Go.Proofs.YtjakeidbajkdcaaGreatDoor.T
/- Kids, the program's, of a record and of a case: the places of a node's children. -/
namespace Go.Proofs.YtjakeidbajkdcaaGreatDoor.T
open Go.RowKit
set_option maxRecDepth 100000 in
set_option maxHeartbeats 4000000 in
theorem pkids_p0 {B : Nat} (k a b c n pos : Int) (nm s : ByteArray) (l : List Fld) (L cp fb fo : Nat) (HO : Hid (ownN k = 0)) (HP : Hid (partsB k = true)) (HL : Hid (l.length = L)) (hL : L ≤ 1000000) (w : World) (hB : B ≤ w.heap.size) (hfb : fb < w.heap.size) (HF : Hid (FldsAt w fb fo l)) (R : List Int) (HRR : Hid (R = ([] : List Int) ++ l.map Fld.pl)) :
    Calls Tryz.prog 61 #[.agg #[.int .i64 k, .int .i64 a, .int .i64 b, .int .i64 c, .int .i64 n, .string nm, .string s, .slice (some ⟨fb, fo, none⟩) L cp, .int .i64 pos]] w (KidsPost R B w) := by
  obtain ⟨i0, hi, hz0, hz1, hz2⟩ := info_parts intInfo
  have hmk := mk0
  obtain ⟨w1, hw1⟩ : ∃ w1, w.alloc (.cells #[.int .i64 k, .int .i64 a, .int .i64 b, .int .i64 c, .int .i64 n, .string nm, .string s, .slice (some ⟨fb, fo, none⟩) L cp, .int .i64 pos] 37) = w1 := ⟨_, rfl⟩
  have hs1 : w1.heap.size = w.heap.size + 1 := by rw [← hw1, World.size_alloc]
  obtain ⟨W4, hcp, hg4, hb4⟩ : ∃ W4, Sem.run Tryz.prog (Builtin.copy_ #[74, 74] 3 #[.slice (some ⟨w.heap.size + 1 + 1, 0, none⟩) 0 0, .slice (some ⟨w.heap.size + 1, 0, none⟩) 3 3]) ((w1.alloc (.cells #[.int .i64 a, .int .i64 b, .int .i64 c] 115)).alloc (.cells #[] 3)) = .ok (.int .i64 0) W4 ∧ W4.heap[w.heap.size + 1 + 1]? = some (.cells ((([] : List Int) : List Int).map (Value.int .i64)).toArray 3) ∧ Below (w.heap.size + 1 + 1) ((w1.alloc (.cells #[.int .i64 a, .int .i64 b, .int .i64 c] 115)).alloc (.cells #[] 3)) W4 :=
    ⟨_, by kernel_rfl, heap_new _ _ _ (by simp [hs1]), Below.refl _ _⟩
  have hc : ∀ j u, #[.int .i64 k, .int .i64 a, .int .i64 b, .int .i64 c, .int .i64 n, .string nm, .string s, .slice (some ⟨fb, fo, none⟩) L cp, .int .i64 pos].toList[j]? = some u → W4.cell? ⟨w.heap.size, j, none⟩ = some u := fun j u hj => by
    rw [hb4.cell (p := ⟨w.heap.size, j, none⟩) (by simp; omega), cell_under _ _ _ _ _ (by omega), ← hw1]
    have h := new_cellsT w 37 (#[.int .i64 k, .int .i64 a, .int .i64 b, .int .i64 c, .int .i64 n, .string nm, .string s, .slice (some ⟨fb, fo, none⟩) L cp, .int .i64 pos].toList) w.heap.size rfl j u hj
    rw [Addr.add_lit, Nat.zero_add] at h
    exact h
  have hk0 := hc 0 _ rfl
  have hk7 := hc 7 _ rfl
  have h4s := hb4.size
  rw [World.size_alloc, World.size_alloc, hs1] at h4s
  rw [← hw1] at hcp hb4
  have HB4 := Lib.hid ((below3 hB _ _ _).trans (hb4.mono (B' := B) (by omega)))
  have HG4 := Lib.hid hg4
  have HB4B := Lib.hid ((below3 (Nat.le_refl w.heap.size) _ _ _).trans (hb4.mono (B' := w.heap.size) (by omega)))
  clear hb4 hg4 hs1 hw1 hc
  go_enter Tryz.func61, Tryz.ntmps61
  go_wp2_with (first
    | (go_at_call 103; refine (ownKids_is HO.out _).mono ?_; rintro e w1 ⟨rfl, rfl⟩)
    | (go_at_call 104; refine (hasParts_is HP.out _).mono ?_; rintro e w1 ⟨rfl, rfl⟩))
  go_loopw [4, 27] (fun v i wr => ∃ q g c' : Nat, v = .slice (some ⟨g, 0, none⟩) q c' ∧ i = .int .i64 (q : Int) ∧ q ≤ L ∧ Hid (wr.ownsRow (w.heap.size + 1) 3 1 (.slice (some ⟨g, 0, none⟩) q c') q ((([] : List Int) ++ (l.take q).map Fld.pl).map (Value.int .i64))) ∧ Hid (Below (w.heap.size + 1) W4 wr)) (fun _ i _ => L - (intOf i).toNat)
  case atStart => exact ⟨0, _, _, rfl, rfl, by omega, Lib.hid (by rw [List.take_zero]; exact ints_of (B := w.heap.size + 1) (l := ([] : List Int)) HG4.out (by omega) rfl (by simp [maxLen])), Lib.hid (Below.refl _ _)⟩
  case round =>
    obtain ⟨q, g, c', rfl, rfl, hq, HI, HB⟩ := hrel
    have hcb : wr.cell? ⟨w.heap.size, 7, none⟩ = some (.slice (some ⟨fb, fo, none⟩) L cp) := (HB.out.cell (p := ⟨w.heap.size, 7, none⟩) (by simp)).trans hk7
    have hsz := HB.out.size
    by_cases hlt : q < L
    · obtain ⟨fd, hfd⟩ : ∃ fd, l[q]? = some fd := ⟨_, List.getElem?_eq_getElem (by rw [HL.out]; exact hlt)⟩
      obtain ⟨z0, z1, z2⟩ := (HF.out.below (W' := wr) (HB4B.out.trans (HB.out.mono (by omega))) hfb) q fd hfd
      have HX := Lib.hid (pl_take l q fd hfd)
      clear hfd
      go_wp2_with (at_builtin; refine wpList_append_own _ rfl _ _ 74 rfl (w.heap.size + 1) 3 i0 (.int .i64 0) 1 8 Tryz.underlying74 hi hz0 hz1 hz2 rfl (by decide) _ _ _ rfl ((HI.out.alloc _).alloc _) ⟨wr.heap.size + 1, 0, none⟩ 1 1 [.int .i64 fd.pl] rfl rfl (new_cellsT _ 3 [.int .i64 fd.pl] _ (by simp)) (fun u hu => by rw [List.mem_singleton.1 hu]; rfl) (by unfold maxLen; omega) (by omega) (by simp; omega) ?_; intro v' w2 hown' hgrow _; obtain ⟨g', cap', rfl⟩ := ownsRow_succ hown'; have HO := Lib.hid hown'; have HG := Lib.hid hgrow; clear hown' hgrow)
      go_roundw
      case rel =>
        refine ⟨q + 1, g', cap', rfl, by go_num, by omega, Lib.hid ?_, Lib.hid (((HB.out.alloc (by omega) _).alloc (by simp; omega) _).grown HG.out (by simp; omega) (fun k hk => (HI.out.lt k hk).1))⟩
        have h := HO.out
        rw [HX.out, ← List.append_assoc, List.map_append]
        exact h
      case measure => simp [intOf]; omega
    · obtain rfl : q = L := by omega
      go_wp2
      go_ret
      refine KidsPost.of rfl _ _ _ rfl (by have := HL.out; rw [HRR.out]; simp; omega) ?_ ?_
      · have h := HI.out
        rw [List.take_of_length_le (by have := HL.out; omega)] at h
        have e : (([] : List Int) ++ l.map Fld.pl).length = q := by have := HL.out; simp; omega
        unfold Ints
        rw [HRR.out, e]
        exact row_mono h (by omega)
      · exact HB4.out.trans (HB.out.mono (by omega))
set_option maxRecDepth 100000 in
set_option maxHeartbeats 4000000 in
theorem pkids_p1 {B : Nat} (k a b c n pos : Int) (nm s : ByteArray) (l : List Fld) (L cp fb fo : Nat) (HO : Hid (ownN k = 1)) (HP : Hid (partsB k = true)) (HL : Hid (l.length = L)) (hL : L ≤ 1000000) (w : World) (hB : B ≤ w.heap.size) (hfb : fb < w.heap.size) (HF : Hid (FldsAt w fb fo l)) (R : List Int) (HRR : Hid (R = [a] ++ l.map Fld.pl)) :
    Calls Tryz.prog 61 #[.agg #[.int .i64 k, .int .i64 a, .int .i64 b, .int .i64 c, .int .i64 n, .string nm, .string s, .slice (some ⟨fb, fo, none⟩) L cp, .int .i64 pos]] w (KidsPost R B w) := by
  obtain ⟨i0, hi, hz0, hz1, hz2⟩ := info_parts intInfo
  have hmk := mk1
  obtain ⟨w1, hw1⟩ : ∃ w1, w.alloc (.cells #[.int .i64 k, .int .i64 a, .int .i64 b, .int .i64 c, .int .i64 n, .string nm, .string s, .slice (some ⟨fb, fo, none⟩) L cp, .int .i64 pos] 37) = w1 := ⟨_, rfl⟩
  have hs1 : w1.heap.size = w.heap.size + 1 := by rw [← hw1, World.size_alloc]
  obtain ⟨W4, hcp, hg4, hb4, _⟩ := copy_at ((w1.alloc (.cells #[.int .i64 a, .int .i64 b, .int .i64 c] 115)).alloc (.cells #[.int .i64 0] 3)) (w.heap.size + 1 + 1) 1 1 ⟨w.heap.size + 1, 0, none⟩ 3 3 [.int .i64 0] (([a] : List Int).map (Value.int .i64)) 3
    (heap_new _ _ _ (by simp [hs1])) rfl (fun j v hv => by
      rw [Addr.add_lit, Nat.zero_add, cell_under1 _ _ _ _ (by simp [hs1])]
      have h := arr3 w1 a b c 1 j v hv
      rw [Addr.add_lit, Nat.zero_add, hs1] at h
      exact h) (Nat.le_refl _) oneInt
  rw [splice_all _ _ (by simp)] at hg4
  have hc : ∀ j u, #[.int .i64 k, .int .i64 a, .int .i64 b, .int .i64 c, .int .i64 n, .string nm, .string s, .slice (some ⟨fb, fo, none⟩) L cp, .int .i64 pos].toList[j]? = some u → W4.cell? ⟨w.heap.size, j, none⟩ = some u := fun j u hj => by
    rw [hb4.cell (p := ⟨w.heap.size, j, none⟩) (by simp; omega), cell_under _ _ _ _ _ (by omega), ← hw1]
    have h := new_cellsT w 37 (#[.int .i64 k, .int .i64 a, .int .i64 b, .int .i64 c, .int .i64 n, .string nm, .string s, .slice (some ⟨fb, fo, none⟩) L cp, .int .i64 pos].toList) w.heap.size rfl j u hj
    rw [Addr.add_lit, Nat.zero_add] at h
    exact h
  have hk0 := hc 0 _ rfl
  have hk7 := hc 7 _ rfl
  have h4s := hb4.size
  rw [World.size_alloc, World.size_alloc, hs1] at h4s
  rw [← hw1] at hcp hb4
  have HB4 := Lib.hid ((below3 hB _ _ _).trans (hb4.mono (B' := B) (by omega)))
  have HG4 := Lib.hid hg4
  have HB4B := Lib.hid ((below3 (Nat.le_refl w.heap.size) _ _ _).trans (hb4.mono (B' := w.heap.size) (by omega)))
  clear hb4 hg4 hs1 hw1 hc
  go_enter Tryz.func61, Tryz.ntmps61
  go_wp2_with (first
    | (go_at_call 103; refine (ownKids_is HO.out _).mono ?_; rintro e w1 ⟨rfl, rfl⟩)
    | (go_at_call 104; refine (hasParts_is HP.out _).mono ?_; rintro e w1 ⟨rfl, rfl⟩))
  go_loopw [4, 27] (fun v i wr => ∃ q g c' : Nat, v = .slice (some ⟨g, 0, none⟩) (q + 1) c' ∧ i = .int .i64 (q : Int) ∧ q ≤ L ∧ Hid (wr.ownsRow (w.heap.size + 1) 3 1 (.slice (some ⟨g, 0, none⟩) (q + 1) c') (q + 1) (([a] ++ (l.take q).map Fld.pl).map (Value.int .i64))) ∧ Hid (Below (w.heap.size + 1) W4 wr)) (fun _ i _ => L - (intOf i).toNat)
  case atStart => exact ⟨0, _, _, rfl, rfl, by omega, Lib.hid (by rw [List.take_zero]; exact ints_of (B := w.heap.size + 1) (l := [a]) HG4.out (by omega) rfl (by simp [maxLen])), Lib.hid (Below.refl _ _)⟩
  case round =>
    obtain ⟨q, g, c', rfl, rfl, hq, HI, HB⟩ := hrel
    have hcb : wr.cell? ⟨w.heap.size, 7, none⟩ = some (.slice (some ⟨fb, fo, none⟩) L cp) := (HB.out.cell (p := ⟨w.heap.size, 7, none⟩) (by simp)).trans hk7
    have hsz := HB.out.size
    by_cases hlt : q < L
    · obtain ⟨fd, hfd⟩ : ∃ fd, l[q]? = some fd := ⟨_, List.getElem?_eq_getElem (by rw [HL.out]; exact hlt)⟩
      obtain ⟨z0, z1, z2⟩ := (HF.out.below (W' := wr) (HB4B.out.trans (HB.out.mono (by omega))) hfb) q fd hfd
      have HX := Lib.hid (pl_take l q fd hfd)
      clear hfd
      go_wp2_with (at_builtin; refine wpList_append_own _ rfl _ _ 74 rfl (w.heap.size + 1) 3 i0 (.int .i64 0) 1 8 Tryz.underlying74 hi hz0 hz1 hz2 rfl (by decide) _ _ _ rfl ((HI.out.alloc _).alloc _) ⟨wr.heap.size + 1, 0, none⟩ 1 1 [.int .i64 fd.pl] rfl rfl (new_cellsT _ 3 [.int .i64 fd.pl] _ (by simp)) (fun u hu => by rw [List.mem_singleton.1 hu]; rfl) (by unfold maxLen; omega) (by omega) (by simp; omega) ?_; intro v' w2 hown' hgrow _; obtain ⟨g', cap', rfl⟩ := ownsRow_succ hown'; have HO := Lib.hid hown'; have HG := Lib.hid hgrow; clear hown' hgrow)
      go_roundw
      case rel =>
        refine ⟨q + 1, g', cap', rfl, by go_num, by omega, Lib.hid ?_, Lib.hid (((HB.out.alloc (by omega) _).alloc (by simp; omega) _).grown HG.out (by simp; omega) (fun k hk => (HI.out.lt k hk).1))⟩
        have h := HO.out
        rw [HX.out, ← List.append_assoc, List.map_append]
        exact h
      case measure => simp [intOf]; omega
    · obtain rfl : q = L := by omega
      go_wp2
      go_ret
      refine KidsPost.of rfl _ _ _ rfl (by have := HL.out; rw [HRR.out]; simp; omega) ?_ ?_
      · have h := HI.out
        rw [List.take_of_length_le (by have := HL.out; omega)] at h
        have e : ([a] ++ l.map Fld.pl).length = (q + 1) := by have := HL.out; simp; omega
        unfold Ints
        rw [HRR.out, e]
        exact row_mono h (by omega)
      · exact HB4.out.trans (HB.out.mono (by omega))
set_option maxRecDepth 100000 in
set_option maxHeartbeats 4000000 in
theorem pkids_z0 {B : Nat} (k a b c n pos : Int) (nm s : ByteArray) (A : Option Addr) (cp : Nat) (HO : Hid (ownN k = 0)) (HP : Hid (partsB k = true)) (w : World) (hB : B ≤ w.heap.size) :
    Calls Tryz.prog 61 #[.agg #[.int .i64 k, .int .i64 a, .int .i64 b, .int .i64 c, .int .i64 n, .string nm, .string s, .slice A 0 cp, .int .i64 pos]] w (KidsPost ([] : List Int) B w) := by
  have hmk := mk0
  obtain ⟨w1, hw1⟩ : ∃ w1, w.alloc (.cells #[.int .i64 k, .int .i64 a, .int .i64 b, .int .i64 c, .int .i64 n, .string nm, .string s, .slice A 0 cp, .int .i64 pos] 37) = w1 := ⟨_, rfl⟩
  have hs1 : w1.heap.size = w.heap.size + 1 := by rw [← hw1, World.size_alloc]
  obtain ⟨W4, hcp, hg4, hb4⟩ : ∃ W4, Sem.run Tryz.prog (Builtin.copy_ #[74, 74] 3 #[.slice (some ⟨w.heap.size + 1 + 1, 0, none⟩) 0 0, .slice (some ⟨w.heap.size + 1, 0, none⟩) 3 3]) ((w1.alloc (.cells #[.int .i64 a, .int .i64 b, .int .i64 c] 115)).alloc (.cells #[] 3)) = .ok (.int .i64 0) W4 ∧ W4.heap[w.heap.size + 1 + 1]? = some (.cells ((([] : List Int) : List Int).map (Value.int .i64)).toArray 3) ∧ Below (w.heap.size + 1 + 1) ((w1.alloc (.cells #[.int .i64 a, .int .i64 b, .int .i64 c] 115)).alloc (.cells #[] 3)) W4 :=
    ⟨_, by kernel_rfl, heap_new _ _ _ (by simp [hs1]), Below.refl _ _⟩
  have hc : ∀ j u, #[.int .i64 k, .int .i64 a, .int .i64 b, .int .i64 c, .int .i64 n, .string nm, .string s, .slice A 0 cp, .int .i64 pos].toList[j]? = some u → W4.cell? ⟨w.heap.size, j, none⟩ = some u := fun j u hj => by
    rw [hb4.cell (p := ⟨w.heap.size, j, none⟩) (by simp; omega), cell_under _ _ _ _ _ (by omega), ← hw1]
    have h := new_cellsT w 37 (#[.int .i64 k, .int .i64 a, .int .i64 b, .int .i64 c, .int .i64 n, .string nm, .string s, .slice A 0 cp, .int .i64 pos].toList) w.heap.size rfl j u hj
    rw [Addr.add_lit, Nat.zero_add] at h
    exact h
  have hk0 := hc 0 _ rfl
  have hk7 := hc 7 _ rfl
  have h4s := hb4.size
  rw [World.size_alloc, World.size_alloc, hs1] at h4s
  rw [← hw1] at hcp hb4
  have HB4 := Lib.hid ((below3 hB _ _ _).trans (hb4.mono (B' := B) (by omega)))
  have HG4 := Lib.hid hg4
  clear hb4 hg4 hs1 hw1 hc
  go_enter Tryz.func61, Tryz.ntmps61
  go_wp2_with (first
    | (go_at_call 103; refine (ownKids_is HO.out _).mono ?_; rintro e w1 ⟨rfl, rfl⟩)
    | (go_at_call 104; refine (hasParts_is HP.out _).mono ?_; rintro e w1 ⟨rfl, rfl⟩))
  go_loop [4, 27] (fun v i => v = .slice (some ⟨w.heap.size + 1 + 1, 0, none⟩) 0 0 ∧ i = .int .i64 0) (fun _ _ => 0)
  case atStart => exact ⟨rfl, rfl⟩
  case round =>
    obtain ⟨rfl, rfl⟩ := hrel
    go_wp2
    go_ret
    exact KidsPost.of rfl _ _ _ rfl rfl (ints_of (l := ([] : List Int)) HG4.out (by omega) rfl (by simp [maxLen])) (HB4.out)
set_option maxRecDepth 100000 in
set_option maxHeartbeats 4000000 in
theorem pkids_z1 {B : Nat} (k a b c n pos : Int) (nm s : ByteArray) (A : Option Addr) (cp : Nat) (HO : Hid (ownN k = 1)) (HP : Hid (partsB k = true)) (w : World) (hB : B ≤ w.heap.size) :
    Calls Tryz.prog 61 #[.agg #[.int .i64 k, .int .i64 a, .int .i64 b, .int .i64 c, .int .i64 n, .string nm, .string s, .slice A 0 cp, .int .i64 pos]] w (KidsPost [a] B w) := by
  have hmk := mk1
  obtain ⟨w1, hw1⟩ : ∃ w1, w.alloc (.cells #[.int .i64 k, .int .i64 a, .int .i64 b, .int .i64 c, .int .i64 n, .string nm, .string s, .slice A 0 cp, .int .i64 pos] 37) = w1 := ⟨_, rfl⟩
  have hs1 : w1.heap.size = w.heap.size + 1 := by rw [← hw1, World.size_alloc]
  obtain ⟨W4, hcp, hg4, hb4, _⟩ := copy_at ((w1.alloc (.cells #[.int .i64 a, .int .i64 b, .int .i64 c] 115)).alloc (.cells #[.int .i64 0] 3)) (w.heap.size + 1 + 1) 1 1 ⟨w.heap.size + 1, 0, none⟩ 3 3 [.int .i64 0] (([a] : List Int).map (Value.int .i64)) 3
    (heap_new _ _ _ (by simp [hs1])) rfl (fun j v hv => by
      rw [Addr.add_lit, Nat.zero_add, cell_under1 _ _ _ _ (by simp [hs1])]
      have h := arr3 w1 a b c 1 j v hv
      rw [Addr.add_lit, Nat.zero_add, hs1] at h
      exact h) (Nat.le_refl _) oneInt
  rw [splice_all _ _ (by simp)] at hg4
  have hc : ∀ j u, #[.int .i64 k, .int .i64 a, .int .i64 b, .int .i64 c, .int .i64 n, .string nm, .string s, .slice A 0 cp, .int .i64 pos].toList[j]? = some u → W4.cell? ⟨w.heap.size, j, none⟩ = some u := fun j u hj => by
    rw [hb4.cell (p := ⟨w.heap.size, j, none⟩) (by simp; omega), cell_under _ _ _ _ _ (by omega), ← hw1]
    have h := new_cellsT w 37 (#[.int .i64 k, .int .i64 a, .int .i64 b, .int .i64 c, .int .i64 n, .string nm, .string s, .slice A 0 cp, .int .i64 pos].toList) w.heap.size rfl j u hj
    rw [Addr.add_lit, Nat.zero_add] at h
    exact h
  have hk0 := hc 0 _ rfl
  have hk7 := hc 7 _ rfl
  have h4s := hb4.size
  rw [World.size_alloc, World.size_alloc, hs1] at h4s
  rw [← hw1] at hcp hb4
  have HB4 := Lib.hid ((below3 hB _ _ _).trans (hb4.mono (B' := B) (by omega)))
  have HG4 := Lib.hid hg4
  clear hb4 hg4 hs1 hw1 hc
  go_enter Tryz.func61, Tryz.ntmps61
  go_wp2_with (first
    | (go_at_call 103; refine (ownKids_is HO.out _).mono ?_; rintro e w1 ⟨rfl, rfl⟩)
    | (go_at_call 104; refine (hasParts_is HP.out _).mono ?_; rintro e w1 ⟨rfl, rfl⟩))
  go_loop [4, 27] (fun v i => v = .slice (some ⟨w.heap.size + 1 + 1, 0, none⟩) 1 1 ∧ i = .int .i64 0) (fun _ _ => 0)
  case atStart => exact ⟨rfl, rfl⟩
  case round =>
    obtain ⟨rfl, rfl⟩ := hrel
    go_wp2
    go_ret
    exact KidsPost.of rfl _ _ _ rfl rfl (ints_of (l := [a]) HG4.out (by omega) rfl (by simp [maxLen])) (HB4.out)
theorem own_parts (k : Int) (h : partsB k = true) : (k = 11 ∧ ownN k = 0) ∨ (k = 14 ∧ ownN k = 1) := by
  unfold partsB at h
  rcases of_decide_eq_true h with rfl | rfl
  · exact .inl ⟨rfl, rfl⟩
  · exact .inr ⟨rfl, rfl⟩
theorem pkids_any {B : Nat} (x : Nd) (vl : Value) (w : World) (hB : B ≤ w.heap.size) (hv : Flds w.heap.size w vl x.l) (hL : x.l.length ≤ 1000000) :
    Calls Tryz.prog 61 #[.agg (ndArr x vl)] w (KidsPost (kids x) B w) := by
  have e : kids x = [x.a, x.b, x.c].take (ownN x.kind) ++ if partsB x.kind = true then x.l.map Fld.pl else [] := by rw [kids, kids_own]; rfl
  rw [e]
  clear e
  obtain ⟨k, a, b, c, n, nm, s, l, pos⟩ := x
  unfold ndArr
  simp only at hv hL ⊢
  cases hp : partsB k with
  | false =>
    rw [if_neg (by simp), List.append_nil]
    have hle := ownN_le k
    match hm : ownN k, hle with
    | 0, _ => exact pkids_0 k a b c n pos nm s vl (Lib.hid hm) (Lib.hid hp) w hB
    | 1, _ => exact pkids_1 k a b c n pos nm s vl (Lib.hid hm) (Lib.hid hp) w hB
    | 2, _ => exact pkids_2 k a b c n pos nm s vl (Lib.hid hm) (Lib.hid hp) w hB
    | 3, _ => exact pkids_3 k a b c n pos nm s vl (Lib.hid hm) (Lib.hid hp) w hB
    | m + 4, h => omega
  | true =>
    rw [if_pos rfl]
    obtain ⟨A, cp, rfl, _, _, hq⟩ := hv
    rcases own_parts k hp with ⟨hk, hm⟩ | ⟨hk, hm⟩
    · rw [hm]
      by_cases h0 : 0 < l.length
      · obtain ⟨fb, fo, rfl, hlt, hf⟩ := hq h0
        exact pkids_p0 k a b c n pos nm s l _ cp fb fo (Lib.hid hm) (Lib.hid hp) (Lib.hid rfl) hL w hB hlt (Lib.hid hf) _ (Lib.hid rfl)
      · obtain rfl : l = [] := List.eq_nil_of_length_eq_zero (by omega)
        exact pkids_z0 k a b c n pos nm s _ _ (Lib.hid hm) (Lib.hid hp) w hB
    · rw [hm]
      by_cases h0 : 0 < l.length
      · obtain ⟨fb, fo, rfl, hlt, hf⟩ := hq h0
        exact pkids_p1 k a b c n pos nm s l _ cp fb fo (Lib.hid hm) (Lib.hid hp) (Lib.hid rfl) hL w hB hlt (Lib.hid hf) _ (Lib.hid rfl)
      · obtain rfl : l = [] := List.eq_nil_of_length_eq_zero (by omega)
        exact pkids_z1 k a b c n pos nm s _ _ (Lib.hid hm) (Lib.hid hp) w hB
end Go.Proofs.YtjakeidbajkdcaaGreatDoor.T
