/- Joined by program: PUnc. -/
import Derived.Test.YteikpeaakmbihaaDoorG15
/- uncounted: a node without what counts of it beside its children, and whether that is as its kind has it: kind by kind. -/
namespace Go.Proofs.YteikpeaakmbihaaDoor.T
open Go.RowKit
theorem blk_put {W : World} {b j t : Nat} {cs : Array Value} {v : Value} (h : W.heap[b]? = some (.cells cs t (0, 0))) : (W.setCell ⟨b, j, none⟩ v).heap[b]? = some (.cells (cs.setIfInBounds j v) t (0, 0)) := by
  obtain ⟨hlt, hk⟩ := Array.getElem?_eq_some_iff.1 h
  show (W.heap.modify b _)[b]? = _
  rw [Array.getElem?_eq_getElem (by rw [Array.size_modify]; exact hlt), Array.getElem_modify_self, hk]
  rfl
/-- A node's cells stored anew, one by one. -/
theorem chain9 {W : World} {b : Nat} {u v0 v1 v2 v3 v4 v5 v6 v7 v8 c0 c1 c2 c3 c4 c5 c6 c7 c8 : Value} (h : W.heap[b]? = some (.cells #[c0, c1, c2, c3, c4, c5, c6, c7, c8] 27 (0, 0))) :
    ((((((((((W.setCell ⟨b, 7, none⟩ u).setCell ⟨b, 0, none⟩ v0).setCell ⟨b, 1, none⟩ v1).setCell ⟨b, 2, none⟩ v2).setCell ⟨b, 3, none⟩ v3).setCell ⟨b, 4, none⟩ v4).setCell ⟨b, 5, none⟩ v5).setCell ⟨b, 6, none⟩ v6).setCell ⟨b, 7, none⟩ v7).setCell ⟨b, 8, none⟩ v8).heap[b]? = some (.cells #[v0, v1, v2, v3, v4, v5, v6, v7, v8] 27 (0, 0)) := by
  have h1 := blk_put (j := 7) (v := u) h
  have h2 := blk_put (j := 0) (v := v0) h1
  have h3 := blk_put (j := 1) (v := v1) h2
  have h4 := blk_put (j := 2) (v := v2) h3
  have h5 := blk_put (j := 3) (v := v3) h4
  have h6 := blk_put (j := 4) (v := v4) h5
  have h7 := blk_put (j := 5) (v := v5) h6
  have h8 := blk_put (j := 6) (v := v6) h7
  have h9 := blk_put (j := 7) (v := v7) h8
  have h10 := blk_put (j := 8) (v := v8) h9
  rw [h10]
  simp
theorem res64 (tmps : Array Value) (W : World) (p : Nat) (b : Bool) (v0 v1 v2 v3 v4 v5 v6 v7 v8 : Value) (h2 : tmps[2]?.getD undef = .pointer (some ⟨p, 0, none⟩)) (h3 : tmps[3]?.getD undef = .bool b) (hb : W.heap[p]? = some (.cells #[v0, v1, v2, v3, v4, v5, v6, v7, v8] 27 (0, 0))) :
    Sem.run Tryd.prog (results Tryd.f92 tmps) W = .ok (.tuple #[.agg #[v0, v1, v2, v3, v4, v5, v6, v7, v8], .bool b]) W := by
  have c0 := Blk_cell hb 0
  have c1 := Blk_cell hb 1
  have c2 := Blk_cell hb 2
  have c3 := Blk_cell hb 3
  have c4 := Blk_cell hb 4
  have c5 := Blk_cell hb 5
  have c6 := Blk_cell hb 6
  have c7 := Blk_cell hb 7
  have c8 := Blk_cell hb 8
  simp [results, Tryd.results92, go_sem, h2, h3, c0, c1, c2, c3, c4, c5, c6, c7, c8]
theorem below9 {B : Nat} {w W : World} {b : Nat} (h : Below B w W) (hb : B ≤ b) {u v0 v1 v2 v3 v4 v5 v6 v7 v8 : Value} :
    Below B w ((((((((((W.setCell ⟨b, 7, none⟩ u).setCell ⟨b, 0, none⟩ v0).setCell ⟨b, 1, none⟩ v1).setCell ⟨b, 2, none⟩ v2).setCell ⟨b, 3, none⟩ v3).setCell ⟨b, 4, none⟩ v4).setCell ⟨b, 5, none⟩ v5).setCell ⟨b, 6, none⟩ v6).setCell ⟨b, 7, none⟩ v7).setCell ⟨b, 8, none⟩ v8) :=
  (((((((((h.setCell (p := ⟨b, 7, none⟩) hb u).setCell (p := ⟨b, 0, none⟩) hb v0).setCell (p := ⟨b, 1, none⟩) hb v1).setCell (p := ⟨b, 2, none⟩) hb v2).setCell (p := ⟨b, 3, none⟩) hb v3).setCell (p := ⟨b, 4, none⟩) hb v4).setCell (p := ⟨b, 5, none⟩) hb v5).setCell (p := ⟨b, 6, none⟩) hb v6).setCell (p := ⟨b, 7, none⟩) hb v7).setCell (p := ⟨b, 8, none⟩) hb v8
theorem blk_second {w w1 : World} {o1 : Obj} {cs : Array Value} (hb : Below ((w.alloc o1).alloc (.cells cs 27)).heap.size ((w.alloc o1).alloc (.cells cs 27)) w1) : w1.heap[w.heap.size + 1]? = some (.cells cs 27) := by
  rw [hb.block (w.heap.size + 1) (by simp)]
  exact heap_new _ _ _ (by simp)
def UPost (cs : Array Value) (b : Bool) (w : World) (e : Ending) (w' : World) : Prop := e = .returned (.tuple #[.agg cs, .bool b]) ∧ Below w.heap.size w w'
set_option maxRecDepth 100000 in
set_option maxHeartbeats 4000000 in
theorem unc_k (w : World) (k : Int) (a b c n pos : Int) (nm s : ByteArray) (A : Option Addr) (L cp : Nat) (q1 : (k == 1) = false) (q2 : (k == 2) = false) (q3 : (k == 3) = false) (q4 : (k == 4) = false) (q5 : (k == 5) = false) (q6 : (k == 6) = false) (q7 : (k == 7) = false) (q8 : (k == 8) = false) (q9 : (k == 9) = false) (q10 : (k == 10) = false) (q11 : (k == 11) = false) (q12 : (k == 12) = false) (q13 : (k == 13) = false) (q14 : (k == 14) = false) :
    Calls Tryd.prog 92 #[.agg #[.int .i64 k, .int .i64 a, .int .i64 b, .int .i64 c, .int .i64 n, .string nm, .string s, .slice A L cp, .int .i64 pos]] w (UPost #[.int .i64 k, .int .i64 a, .int .i64 b, .int .i64 c, .int .i64 n, .string nm, .string s, .slice A L cp, .int .i64 pos] false w) := by
  all_goals
    go_enter Tryd.func92, Tryd.ntmps92
    go_wp2
    all_goals exact bodyPost_ret (v := .tuple #[.agg #[.int .i64 k, .int .i64 a, .int .i64 b, .int .i64 c, .int .i64 n, .string nm, .string s, .slice A L cp, .int .i64 pos], .bool _]) (by simp [results, Tryd.results92, go_sem]) rfl ⟨rfl, (((Below.refl _ w).alloc (Nat.le_refl _) _).alloc (by simp) _)⟩
set_option maxRecDepth 100000 in
set_option maxHeartbeats 4000000 in
theorem unc_1 (w : World) (a b c n pos : Int) (nm s : ByteArray) (A : Option Addr) (L cp : Nat) :
    Calls Tryd.prog 92 #[.agg #[.int .i64 1, .int .i64 a, .int .i64 b, .int .i64 c, .int .i64 n, .string nm, .string s, .slice A L cp, .int .i64 pos]] w (UPost #[.int .i64 1, .int .i64 a, .int .i64 b, .int .i64 c, .int .i64 0, .string nm, .string s, .slice A L cp, .int .i64 pos] true w) := by
  all_goals
    go_enter Tryd.func92, Tryd.ntmps92
    go_wp2
    all_goals exact bodyPost_ret (v := .tuple #[.agg #[.int .i64 1, .int .i64 a, .int .i64 b, .int .i64 c, .int .i64 0, .string nm, .string s, .slice A L cp, .int .i64 pos], .bool _]) (by simp [results, Tryd.results92, go_sem]) rfl ⟨rfl, (((Below.refl _ w).alloc (Nat.le_refl _) _).alloc (by simp) _)⟩
set_option maxRecDepth 100000 in
set_option maxHeartbeats 4000000 in
theorem unc_2 (w : World) (a b c n pos : Int) (nm s : ByteArray) (A : Option Addr) (L cp : Nat) (b1 b2 : Bool) (h1 : (n == 0) = b1) (h2 : (n == 1) = b2) :
    Calls Tryd.prog 92 #[.agg #[.int .i64 2, .int .i64 a, .int .i64 b, .int .i64 c, .int .i64 n, .string nm, .string s, .slice A L cp, .int .i64 pos]] w (UPost #[.int .i64 2, .int .i64 a, .int .i64 b, .int .i64 c, .int .i64 0, .string nm, .string s, .slice A L cp, .int .i64 pos] (b1 || b2) w) := by
  cases b1 <;> cases b2
  all_goals
    go_enter Tryd.func92, Tryd.ntmps92
    go_wp2
    go_region
    all_goals go_wp2
    all_goals exact bodyPost_ret (v := .tuple #[.agg #[.int .i64 2, .int .i64 a, .int .i64 b, .int .i64 c, .int .i64 0, .string nm, .string s, .slice A L cp, .int .i64 pos], .bool _]) (by simp [results, Tryd.results92, go_sem]) rfl ⟨rfl, (((Below.refl _ w).alloc (Nat.le_refl _) _).alloc (by simp) _).drew⟩
set_option maxRecDepth 100000 in
set_option maxHeartbeats 4000000 in
theorem unc_3 (w : World) (a b c n pos : Int) (nm s : ByteArray) (A : Option Addr) (L cp : Nat) (b1 : Bool) (_hss : s.size ≤ 9223372036854775807) (h1 : decide ((s.size : Int) ≤ 200) = b1) :
    Calls Tryd.prog 92 #[.agg #[.int .i64 3, .int .i64 a, .int .i64 b, .int .i64 c, .int .i64 n, .string nm, .string s, .slice A L cp, .int .i64 pos]] w (UPost #[.int .i64 3, .int .i64 a, .int .i64 b, .int .i64 c, .int .i64 n, .string nm, .string ⟨#[]⟩, .slice A L cp, .int .i64 pos] b1 w) := by
  cases b1
  all_goals
    go_enter Tryd.func92, Tryd.ntmps92
    go_wp2
    go_region
    all_goals go_wp2
    all_goals exact bodyPost_ret (v := .tuple #[.agg #[.int .i64 3, .int .i64 a, .int .i64 b, .int .i64 c, .int .i64 n, .string nm, .string ⟨#[]⟩, .slice A L cp, .int .i64 pos], .bool _]) (by simp [results, Tryd.results92, go_sem]) rfl ⟨rfl, (((Below.refl _ w).alloc (Nat.le_refl _) _).alloc (by simp) _).drew⟩
set_option maxRecDepth 100000 in
set_option maxHeartbeats 4000000 in
theorem unc_4 (w : World) (a b c n pos : Int) (nm s : ByteArray) (A : Option Addr) (L cp : Nat) (b1 : Bool) (hs : nm.size ≤ 9223372036854775807) (H1 : Hid (M.nameB nm = b1)) {B : Nat} (hB : B ≤ w.heap.size) (hK : Kws B w) :
    Calls Tryd.prog 92 #[.agg #[.int .i64 4, .int .i64 a, .int .i64 b, .int .i64 c, .int .i64 n, .string nm, .string s, .slice A L cp, .int .i64 pos]] w (UPost #[.int .i64 4, .int .i64 a, .int .i64 b, .int .i64 c, .int .i64 n, .string ⟨#[]⟩, .string s, .slice A L cp, .int .i64 pos] b1 w) := by
  have HK : Hid (∀ w1, Below w.heap.size w w1 → Kws B w1) := Lib.hid fun w1 h => hK.on (h.mono hB)
  all_goals
    go_enter Tryd.func92, Tryd.ntmps92
    go_wp2_with (go_at_call 95; refine (name_is H1.out hs _ (HK.out _ (((Below.refl _ w).alloc (Nat.le_refl _) _).alloc (by simp) _))).mono ?_; rintro e w1 ⟨rfl, rfl⟩)
    all_goals exact bodyPost_ret (v := .tuple #[.agg #[.int .i64 4, .int .i64 a, .int .i64 b, .int .i64 c, .int .i64 n, .string ⟨#[]⟩, .string s, .slice A L cp, .int .i64 pos], .bool _]) (by simp [results, Tryd.results92, go_sem]) rfl ⟨rfl, (((Below.refl _ w).alloc (Nat.le_refl _) _).alloc (by simp) _)⟩
set_option maxRecDepth 100000 in
set_option maxHeartbeats 4000000 in
theorem unc_5 (w : World) (a b c n pos : Int) (nm s : ByteArray) (A : Option Addr) (L cp : Nat) (b1 : Bool) (hs : nm.size ≤ 9223372036854775807) (H1 : Hid (M.nameB nm = b1)) {B : Nat} (hB : B ≤ w.heap.size) (hK : Kws B w) :
    Calls Tryd.prog 92 #[.agg #[.int .i64 5, .int .i64 a, .int .i64 b, .int .i64 c, .int .i64 n, .string nm, .string s, .slice A L cp, .int .i64 pos]] w (UPost #[.int .i64 5, .int .i64 a, .int .i64 b, .int .i64 c, .int .i64 n, .string ⟨#[]⟩, .string s, .slice A L cp, .int .i64 pos] b1 w) := by
  have HK : Hid (∀ w1, Below w.heap.size w w1 → Kws B w1) := Lib.hid fun w1 h => hK.on (h.mono hB)
  all_goals
    go_enter Tryd.func92, Tryd.ntmps92
    go_wp2_with (go_at_call 95; refine (name_is H1.out hs _ (HK.out _ (((Below.refl _ w).alloc (Nat.le_refl _) _).alloc (by simp) _))).mono ?_; rintro e w1 ⟨rfl, rfl⟩)
    all_goals exact bodyPost_ret (v := .tuple #[.agg #[.int .i64 5, .int .i64 a, .int .i64 b, .int .i64 c, .int .i64 n, .string ⟨#[]⟩, .string s, .slice A L cp, .int .i64 pos], .bool _]) (by simp [results, Tryd.results92, go_sem]) rfl ⟨rfl, (((Below.refl _ w).alloc (Nat.le_refl _) _).alloc (by simp) _)⟩
set_option maxRecDepth 100000 in
set_option maxHeartbeats 4000000 in
theorem unc_6 (w : World) (a b c n pos : Int) (nm s : ByteArray) (A : Option Addr) (L cp : Nat) :
    Calls Tryd.prog 92 #[.agg #[.int .i64 6, .int .i64 a, .int .i64 b, .int .i64 c, .int .i64 n, .string nm, .string s, .slice A L cp, .int .i64 pos]] w (UPost #[.int .i64 6, .int .i64 a, .int .i64 b, .int .i64 c, .int .i64 n, .string nm, .string s, .slice A L cp, .int .i64 pos] true w) := by
  all_goals
    go_enter Tryd.func92, Tryd.ntmps92
    go_wp2
    all_goals exact bodyPost_ret (v := .tuple #[.agg #[.int .i64 6, .int .i64 a, .int .i64 b, .int .i64 c, .int .i64 n, .string nm, .string s, .slice A L cp, .int .i64 pos], .bool _]) (by simp [results, Tryd.results92, go_sem]) rfl ⟨rfl, (((Below.refl _ w).alloc (Nat.le_refl _) _).alloc (by simp) _)⟩
set_option maxRecDepth 100000 in
set_option maxHeartbeats 4000000 in
theorem unc_7 (w : World) (a b c n pos : Int) (nm s : ByteArray) (A : Option Addr) (L cp : Nat) (b1 : Bool) (hs : nm.size ≤ 9223372036854775807) (H1 : Hid (M.nameB nm = b1)) {B : Nat} (hB : B ≤ w.heap.size) (hK : Kws B w) :
    Calls Tryd.prog 92 #[.agg #[.int .i64 7, .int .i64 a, .int .i64 b, .int .i64 c, .int .i64 n, .string nm, .string s, .slice A L cp, .int .i64 pos]] w (UPost #[.int .i64 7, .int .i64 a, .int .i64 b, .int .i64 c, .int .i64 n, .string ⟨#[]⟩, .string s, .slice A L cp, .int .i64 pos] b1 w) := by
  have HK : Hid (∀ w1, Below w.heap.size w w1 → Kws B w1) := Lib.hid fun w1 h => hK.on (h.mono hB)
  all_goals
    go_enter Tryd.func92, Tryd.ntmps92
    go_wp2_with (go_at_call 95; refine (name_is H1.out hs _ (HK.out _ (((Below.refl _ w).alloc (Nat.le_refl _) _).alloc (by simp) _))).mono ?_; rintro e w1 ⟨rfl, rfl⟩)
    all_goals exact bodyPost_ret (v := .tuple #[.agg #[.int .i64 7, .int .i64 a, .int .i64 b, .int .i64 c, .int .i64 n, .string ⟨#[]⟩, .string s, .slice A L cp, .int .i64 pos], .bool _]) (by simp [results, Tryd.results92, go_sem]) rfl ⟨rfl, (((Below.refl _ w).alloc (Nat.le_refl _) _).alloc (by simp) _)⟩
set_option maxRecDepth 100000 in
set_option maxHeartbeats 4000000 in
theorem unc_8 (w : World) (a b c n pos : Int) (nm s : ByteArray) (A : Option Addr) (L cp : Nat) (b1 : Bool) (hs : nm.size ≤ 9223372036854775807) (H1 : Hid (M.nameB nm = b1)) {B : Nat} (hB : B ≤ w.heap.size) (hK : Kws B w) :
    Calls Tryd.prog 92 #[.agg #[.int .i64 8, .int .i64 a, .int .i64 b, .int .i64 c, .int .i64 n, .string nm, .string s, .slice A L cp, .int .i64 pos]] w (UPost #[.int .i64 8, .int .i64 a, .int .i64 b, .int .i64 c, .int .i64 n, .string ⟨#[]⟩, .string s, .slice A L cp, .int .i64 pos] b1 w) := by
  have HK : Hid (∀ w1, Below w.heap.size w w1 → Kws B w1) := Lib.hid fun w1 h => hK.on (h.mono hB)
  all_goals
    go_enter Tryd.func92, Tryd.ntmps92
    go_wp2_with (go_at_call 95; refine (name_is H1.out hs _ (HK.out _ (((Below.refl _ w).alloc (Nat.le_refl _) _).alloc (by simp) _))).mono ?_; rintro e w1 ⟨rfl, rfl⟩)
    all_goals exact bodyPost_ret (v := .tuple #[.agg #[.int .i64 8, .int .i64 a, .int .i64 b, .int .i64 c, .int .i64 n, .string ⟨#[]⟩, .string s, .slice A L cp, .int .i64 pos], .bool _]) (by simp [results, Tryd.results92, go_sem]) rfl ⟨rfl, (((Below.refl _ w).alloc (Nat.le_refl _) _).alloc (by simp) _)⟩
set_option maxRecDepth 100000 in
set_option maxHeartbeats 4000000 in
theorem unc_9 (w : World) (a b c n pos : Int) (nm s : ByteArray) (A : Option Addr) (L cp : Nat) :
    Calls Tryd.prog 92 #[.agg #[.int .i64 9, .int .i64 a, .int .i64 b, .int .i64 c, .int .i64 n, .string nm, .string s, .slice A L cp, .int .i64 pos]] w (UPost #[.int .i64 9, .int .i64 a, .int .i64 b, .int .i64 c, .int .i64 n, .string nm, .string s, .slice A L cp, .int .i64 pos] true w) := by
  all_goals
    go_enter Tryd.func92, Tryd.ntmps92
    go_wp2
    all_goals exact bodyPost_ret (v := .tuple #[.agg #[.int .i64 9, .int .i64 a, .int .i64 b, .int .i64 c, .int .i64 n, .string nm, .string s, .slice A L cp, .int .i64 pos], .bool _]) (by simp [results, Tryd.results92, go_sem]) rfl ⟨rfl, (((Below.refl _ w).alloc (Nat.le_refl _) _).alloc (by simp) _)⟩
set_option maxRecDepth 100000 in
set_option maxHeartbeats 4000000 in
theorem unc_10 (w : World) (a b c n pos : Int) (nm s : ByteArray) (A : Option Addr) (L cp : Nat) (b1 b2 : Bool) (h1 : decide (1 ≤ n) = b1) (h2 : decide (n ≤ 7) = b2) :
    Calls Tryd.prog 92 #[.agg #[.int .i64 10, .int .i64 a, .int .i64 b, .int .i64 c, .int .i64 n, .string nm, .string s, .slice A L cp, .int .i64 pos]] w (UPost #[.int .i64 10, .int .i64 a, .int .i64 b, .int .i64 c, .int .i64 0, .string nm, .string s, .slice A L cp, .int .i64 pos] (b1 && b2) w) := by
  cases b1 <;> cases b2
  all_goals
    go_enter Tryd.func92, Tryd.ntmps92
    go_wp2
    go_region
    all_goals go_wp2
    all_goals exact bodyPost_ret (v := .tuple #[.agg #[.int .i64 10, .int .i64 a, .int .i64 b, .int .i64 c, .int .i64 0, .string nm, .string s, .slice A L cp, .int .i64 pos], .bool _]) (by simp [results, Tryd.results92, go_sem]) rfl ⟨rfl, (((Below.refl _ w).alloc (Nat.le_refl _) _).alloc (by simp) _).drew⟩
set_option maxRecDepth 100000 in
set_option maxHeartbeats 4000000 in
theorem unc_11 (w : World) (a b c n pos : Int) (nm s : ByteArray) (A : Option Addr) (L cp : Nat) (b1 : Bool) (HC : Hid (∀ w1, Below w.heap.size w w1 → Calls Tryd.prog 97 #[.slice A L cp] w1 fun e w2 => e = .returned (.bool b1) ∧ Below w1.heap.size w1 w2)) :
    Calls Tryd.prog 92 #[.agg #[.int .i64 11, .int .i64 a, .int .i64 b, .int .i64 c, .int .i64 n, .string nm, .string s, .slice A L cp, .int .i64 pos]] w (UPost #[.int .i64 11, .int .i64 a, .int .i64 b, .int .i64 c, .int .i64 n, .string nm, .string s, .slice none 0 0, .int .i64 pos] b1 w) := by
  all_goals
    go_enter Tryd.func92, Tryd.ntmps92
    go_wp2_with (go_at_call 97; refine (HC.out _ (((Below.refl _ w).alloc (Nat.le_refl _) _).alloc (by simp) _)).mono ?_; rintro e w1 ⟨rfl, hb⟩; obtain ⟨hc, hf⟩ := bcellT hb; have HBB := Lib.hid hb; clear hb)
    exact bodyPost_ret (v := .tuple #[.agg #[.int .i64 11, .int .i64 a, .int .i64 b, .int .i64 c, .int .i64 n, .string nm, .string s, .slice none 0 0, .int .i64 pos], .bool b1]) (res64 _ _ (w.heap.size + 1) b1 _ _ _ _ _ _ _ _ _ (by simp) (by simp) (chain9 (blk_second HBB.out))) rfl ⟨rfl, below9 ((((Below.refl _ w).alloc (Nat.le_refl _) _).alloc (by simp) _).trans (HBB.out.mono (by simp; omega))) (by omega)⟩
set_option maxRecDepth 100000 in
set_option maxHeartbeats 4000000 in
theorem unc_12 (w : World) (a b c n pos : Int) (nm s : ByteArray) (A : Option Addr) (L cp : Nat) (b1 : Bool) (hs : nm.size ≤ 9223372036854775807) (H1 : Hid (M.nameB nm = b1)) {B : Nat} (hB : B ≤ w.heap.size) (hK : Kws B w) :
    Calls Tryd.prog 92 #[.agg #[.int .i64 12, .int .i64 a, .int .i64 b, .int .i64 c, .int .i64 n, .string nm, .string s, .slice A L cp, .int .i64 pos]] w (UPost #[.int .i64 12, .int .i64 a, .int .i64 b, .int .i64 c, .int .i64 n, .string ⟨#[]⟩, .string s, .slice A L cp, .int .i64 pos] b1 w) := by
  have HK : Hid (∀ w1, Below w.heap.size w w1 → Kws B w1) := Lib.hid fun w1 h => hK.on (h.mono hB)
  all_goals
    go_enter Tryd.func92, Tryd.ntmps92
    go_wp2_with (go_at_call 95; refine (name_is H1.out hs _ (HK.out _ (((Below.refl _ w).alloc (Nat.le_refl _) _).alloc (by simp) _))).mono ?_; rintro e w1 ⟨rfl, rfl⟩)
    all_goals exact bodyPost_ret (v := .tuple #[.agg #[.int .i64 12, .int .i64 a, .int .i64 b, .int .i64 c, .int .i64 n, .string ⟨#[]⟩, .string s, .slice A L cp, .int .i64 pos], .bool _]) (by simp [results, Tryd.results92, go_sem]) rfl ⟨rfl, (((Below.refl _ w).alloc (Nat.le_refl _) _).alloc (by simp) _)⟩
set_option maxRecDepth 100000 in
set_option maxHeartbeats 4000000 in
theorem unc_13 (w : World) (a b c n pos : Int) (nm s : ByteArray) (A : Option Addr) (L cp : Nat) (b1 : Bool) (hs : nm.size ≤ 9223372036854775807) (H1 : Hid (M.tagB nm = b1)) :
    Calls Tryd.prog 92 #[.agg #[.int .i64 13, .int .i64 a, .int .i64 b, .int .i64 c, .int .i64 n, .string nm, .string s, .slice A L cp, .int .i64 pos]] w (UPost #[.int .i64 13, .int .i64 a, .int .i64 b, .int .i64 c, .int .i64 n, .string ⟨#[]⟩, .string s, .slice A L cp, .int .i64 pos] b1 w) := by
  all_goals
    go_enter Tryd.func92, Tryd.ntmps92
    go_wp2_with (go_at_call 96; refine (tag_is H1.out hs _).mono ?_; rintro e w1 ⟨rfl, rfl⟩)
    all_goals exact bodyPost_ret (v := .tuple #[.agg #[.int .i64 13, .int .i64 a, .int .i64 b, .int .i64 c, .int .i64 n, .string ⟨#[]⟩, .string s, .slice A L cp, .int .i64 pos], .bool _]) (by simp [results, Tryd.results92, go_sem]) rfl ⟨rfl, (((Below.refl _ w).alloc (Nat.le_refl _) _).alloc (by simp) _)⟩
set_option maxRecDepth 100000 in
set_option maxHeartbeats 4000000 in
theorem unc_14 (w : World) (a b c n pos : Int) (nm s : ByteArray) (A : Option Addr) (L cp : Nat) (b1 : Bool) (HC : Hid (∀ w1, Below w.heap.size w w1 → Calls Tryd.prog 98 #[.slice A L cp] w1 fun e w2 => e = .returned (.bool b1) ∧ Below w1.heap.size w1 w2)) :
    Calls Tryd.prog 92 #[.agg #[.int .i64 14, .int .i64 a, .int .i64 b, .int .i64 c, .int .i64 n, .string nm, .string s, .slice A L cp, .int .i64 pos]] w (UPost #[.int .i64 14, .int .i64 a, .int .i64 b, .int .i64 c, .int .i64 n, .string nm, .string s, .slice none 0 0, .int .i64 pos] b1 w) := by
  all_goals
    go_enter Tryd.func92, Tryd.ntmps92
    go_wp2_with (go_at_call 98; refine (HC.out _ (((Below.refl _ w).alloc (Nat.le_refl _) _).alloc (by simp) _)).mono ?_; rintro e w1 ⟨rfl, hb⟩; obtain ⟨hc, hf⟩ := bcellT hb; have HBB := Lib.hid hb; clear hb)
    exact bodyPost_ret (v := .tuple #[.agg #[.int .i64 14, .int .i64 a, .int .i64 b, .int .i64 c, .int .i64 n, .string nm, .string s, .slice none 0 0, .int .i64 pos], .bool b1]) (res64 _ _ (w.heap.size + 1) b1 _ _ _ _ _ _ _ _ _ (by simp) (by simp) (chain9 (blk_second HBB.out))) rfl ⟨rfl, below9 ((((Below.refl _ w).alloc (Nat.le_refl _) _).alloc (by simp) _).trans (HBB.out.mono (by simp; omega))) (by omega)⟩
end Go.Proofs.YteikpeaakmbihaaDoor.T
