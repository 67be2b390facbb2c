/- Joined by program. -/
import Derived.Test.YtjakeidbajkdcaaGreatDoorH03
import Derived.Test.YtjakeidbajkdcaaGreatDoorH00
import Derived.Test.YtjakeidbajkdcaaGreatDoorH04
import Derived.Deep.RegionLaw
set_option maxRecDepth 100000
set_option maxHeartbeats 4000000
namespace Go.Proofs.YtjakeidbajkdcaaGreatDoor.T
open Go.RowKit
theorem make_ints (n : Nat) (hn : n <= 1000000) (w : World) : Sem.run Tryz.prog (Instr.makeSlice 74 (.int .i64 (n : Int)) (.int .i64 (n : Int))) w = .ok (.slice (some ⟨w.heap.size, 0, none⟩) n n) (w.alloc (.cells ((List.replicate n (0 : Int)).map (Value.int .i64)).toArray 3)) := by
  obtain ⟨i0, hi, hz0, hz1, hz2⟩ := info_parts intInfo
  have h := run_make (P := Tryz.prog) w 74 3 i0 (.int .i64 0) Tryz.underlying74 hi hz0 .i64 .i64 (n : Int) (n : Int) (by omega) (by omega) (by rw [hz2]; omega) (by omega)
  rw [h, hz1]
  have e : madeCells (Value.int .i64 0).cells (n * 1) = ((List.replicate n (0 : Int)).map (Value.int .i64)).toArray := by
    simp only [madeCells, Value.cells]
    apply Array.ext
    · simp
    · intro i h1 h2
      simp [Nat.mod_one]
  rw [Int.toNat_natCast, e]
def half (m n : Nat) : List Value := ((List.replicate m (-1 : Int)) ++ List.replicate (n - m) (0 : Int)).map (Value.int .i64)
theorem half_len {m n : Nat} (h : m <= n) : (half m n).length = n := by simp [half]; omega
theorem half_step {m n : Nat} (_h : m <= n) (q : Nat) (_hq : m + q <= n) : splice (half m n) m ((List.replicate q (-1 : Int)).map (Value.int .i64)) = half (m + q) n := by
  unfold splice half
  have e1 : ((List.replicate m (-1 : Int) ++ List.replicate (n - m) (0 : Int)).map (Value.int .i64)).take m = (List.replicate m (-1 : Int)).map (Value.int .i64) := by
    rw [List.map_append, List.take_append_of_le_length (by simp), List.take_of_length_le (by simp)]
  have e2 : ((List.replicate m (-1 : Int) ++ List.replicate (n - m) (0 : Int)).map (Value.int .i64)).drop (m + q) = (List.replicate (n - (m + q)) (0 : Int)).map (Value.int .i64) := by
    rw [List.map_append, List.drop_append, List.drop_of_length_le (by simp), List.nil_append, List.length_map, List.length_replicate, show m + q - m = q by omega, <- List.map_drop, List.drop_replicate, show n - m - q = n - (m + q) by omega]
  rw [e1, List.length_map, List.length_replicate, e2, <- List.map_append, <- List.map_append, <- List.append_assoc, List.replicate_append_replicate]
theorem half_at {m n j : Nat} (h : j < m) : (half m n)[j]? = some (.int .i64 (-1)) := by
  unfold half
  rw [List.map_append, List.getElem?_append_left (by simp; omega)]
  simp [h]
theorem rep_at {q j : Nat} {v : Value} (h : ((List.replicate q (-1 : Int)).map (Value.int .i64))[j]? = some v) : j < q /\ v = .int .i64 (-1) := by
  have hj : j < q := by have := lt_of_some h; simpa using this
  simp [hj] at h
  exact ⟨hj, h.symm⟩
theorem copy_off (W : World) (g o dl dc : Nat) (A : Addr) (sl sc : Nat) (cur cs : List Value) (t : TypeId) (hg : W.heap[g]? = some (.cells cur.toArray t)) (hn : cs.length = Nat.min sl dl)
    (hsrc : ∀ (j : Nat) (v : Value), cs[j]? = some v -> W.cell? (A.add j) = some v) (hfit : o + cs.length <= cur.length) (h1 : ∀ v ∈ cs, v.oneCell' = true) :
    ∃ W', Sem.run Tryz.prog (Builtin.copy_ #[74, 74] 3 #[.slice (some ⟨g, o, none⟩) dl dc, .slice (some A) sl sc]) W = .ok (.int .i64 (cs.length : Int)) W' /\ W'.heap[g]? = some (.cells (splice cur o cs).toArray t) /\ Below g W W' := by
  refine ⟨_, run_copy_row Tryz.prog W 74 74 3 3 g o dl dc A sl sc cur.toArray t cs Tryz.underlying74 sz3 hg hn hsrc (by simpa using hfit) h1, ?_, below_setRow (Below.refl g W) (Nat.le_refl g) _⟩
  have h := setRow_heap W g _ (cur.toArray.toList.take o ++ cs ++ cur.toArray.toList.drop (o + cs.length)).toArray t (0, 0) hg
  rw [h]
  simp [splice]
theorem repeat_any (gx n : Nat) (h1 : 1 <= n) (hn : n <= 100000) (w : World) (hx : w.heap[gx]? = some (.cells #[.int .i64 (-1)] 3)) :
    Calls Tryz.prog 140 #[.slice (some ⟨gx, 0, none⟩) 1 1, .int .i64 (n : Int)] w fun e w' => e = .returned (.slice (some ⟨w.heap.size, 0, none⟩) n n) /\ w'.heap[w.heap.size]? = some (.cells ((List.replicate n (-1 : Int)).map (Value.int .i64)).toArray 3) /\ Below w.heap.size w w' := by
  have hgx : gx < w.heap.size := (Array.getElem?_eq_some_iff.1 hx).1
  have hmk := make_ints n (by omega)
  obtain ⟨w1, hw1⟩ : ∃ w1, w.alloc (.cells ((List.replicate n (0 : Int)).map (Value.int .i64)).toArray 3) = w1 := ⟨_, rfl⟩
  have hmkw := hmk w
  rw [hw1] at hmkw
  have hb1 : Below w.heap.size w w1 := by rw [<- hw1]; exact (Below.refl _ w).alloc (Nat.le_refl _) _
  have hs1 : w1.heap.size = w.heap.size + 1 := by rw [<- hw1, World.size_alloc]
  have hg1 : w1.heap[w.heap.size]? = some (.cells ((List.replicate n (0 : Int)).map (Value.int .i64)).toArray 3) := by rw [<- hw1]; exact heap_alloc_new w _
  obtain ⟨W4, hcp, hg4, hb4, _⟩ := copy_at w1 w.heap.size n n ⟨gx, 0, none⟩ 1 1 ((List.replicate n (0 : Int)).map (Value.int .i64)) [.int .i64 (-1)] 3 hg1 (by show 1 = min 1 n; omega) (fun j v hv => by
      have hj : j = 0 := by have := lt_of_some hv; simpa using this
      subst hj
      rw [Addr.add_lit, hb1.cell (p := ⟨gx, 0 + 0, none⟩) hgx, Blk_cell hx]
      exact hv) (by simp; omega) (fun v hv => by rw [List.mem_singleton.1 hv]; rfl)
  have hh4 : W4.heap[w.heap.size]? = some (.cells (half 1 n).toArray 3) := by
    rw [hg4]
    congr 2
    have := half_step (m := 0) (n := n) (by omega) 1 (by omega)
    simp [half] at this ⊢
    exact this
  clear hmk hg4 hw1 hg1 hx
  have HB1 := Lib.hid hb1
  have HB4 := Lib.hid (hb1.trans hb4)
  clear hb1 hb4
  have hcp' : Sem.run Tryz.prog (Builtin.copy_ #[74, 74] 3 #[.slice (some ⟨w.heap.size, 0, none⟩) n n, .slice (some ⟨gx, 0, none⟩) 1 1]) w1 = .ok (.int .i64 1) W4 := hcp
  clear hcp
  have hH4 := Lib.hid hh4
  clear hh4
  have HM : Hid (∀ w, Calls Tryz.prog 166 #[.int .u64 1, .int .u64 (n : Int)] w fun e w' => e = .returned (.tuple #[.int .u64 0, .int .u64 (n : Int)]) /\ w = w') := Lib.hid fun w => by
    have h := Tryz.bits_Mul 1 n (by omega) (by omega) w
    rw [show (1 * n / 18446744073709551616 : Nat) = 0 by omega, show (1 * n % 18446744073709551616 : Nat) = n by omega] at h
    exact h.mono fun e w' h => ⟨h.1, h.2.symm⟩
  go_enter Tryz.func140, Tryz.ntmps140
  go_wp2_with (go_at_call 166; refine (HM.out _).mono ?_; rintro e w' ⟨rfl, rfl⟩)
  go_loopw [8] (fun v wr => ∃ m : Nat, v = .int .i64 (m : Int) /\ 1 <= m /\ m <= n /\ Hid (wr.heap[w.heap.size]? = some (.cells (half m n).toArray 3)) /\ Hid (Below w.heap.size w wr)) (fun v _ => n - (intOf v).toNat)
  case atStart => exact ⟨1, rfl, Nat.le_refl _, h1, hH4, HB4⟩
  case round =>
    obtain ⟨m, rfl, hm1, hmn, HG, HB⟩ := hrel
    by_cases hlt : m < n
    · obtain ⟨q, hq⟩ : ∃ q, min m (n - m) = q := ⟨_, rfl⟩
      have hq1 : 1 <= q := by omega
      have hq2 : m + q <= n := by omega
      have HQ : Hid (((List.replicate q (-1 : Int)).map (Value.int .i64)).length = Nat.min m (n - m)) := Lib.hid (by rw [List.length_map, List.length_replicate]; exact hq.symm)
      have HQL : Hid (((List.replicate q (-1 : Int)).map (Value.int .i64)).length = q) := Lib.hid (by simp)
      have HS : Hid (∀ (j : Nat) (v : Value), ((List.replicate q (-1 : Int)).map (Value.int .i64))[j]? = some v -> wr.drew.cell? ((⟨w.heap.size, 0, none⟩ : Addr).add j) = some v) := Lib.hid (fun j v hv => by
        obtain ⟨hj, rfl⟩ := rep_at hv
        rw [Addr.add_lit, Nat.zero_add, World.cell?_drew, Blk_cell HG.out]
        simpa using half_at (m := m) (n := n) (j := j) (by omega))
      have HF : Hid (m + ((List.replicate q (-1 : Int)).map (Value.int .i64)).length <= (half m n).length) := Lib.hid (by rw [HQL.out, half_len hmn]; omega)
      have HSP := Lib.hid (half_step hmn q hq2)
      have hnm : ¬ n = m := by omega
      obtain ⟨W5, hcp, hg5, hb5⟩ := copy_off wr.drew w.heap.size m (n - m) (n - m) ⟨w.heap.size, 0, none⟩ m n (half m n) ((List.replicate q (-1 : Int)).map (Value.int .i64)) 3 HG.out HQ.out HS.out HF.out oneInt
      rw [HQL.out] at hcp
      rw [HSP.out] at hg5
      have HG5 := Lib.hid hg5
      have HB5 := Lib.hid (HB.out.drew.trans hb5)
      clear hq hg5 hb5
      go_wp2_with fail
      go_region
      all_goals
        go_wp2
        go_roundw
        case rel => exact ⟨m + q, by go_num, by omega, hq2, HG5, HB5⟩
        case measure => simp [intOf]; omega
    · obtain rfl : m = n := by omega
      go_wp2
      go_ret
      refine ⟨rfl, ?_, HB.out⟩
      rw [HG.out]
      simp [half]
end Go.Proofs.YtjakeidbajkdcaaGreatDoor.T
