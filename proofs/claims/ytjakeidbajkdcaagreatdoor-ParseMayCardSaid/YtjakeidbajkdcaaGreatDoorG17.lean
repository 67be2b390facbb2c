/- Joined by program: PPlaces, PPlacesB, PWith, PWithA. -/
import Derived.Test.YtjakeidbajkdcaaGreatDoorG15
import Derived.Deep.RegionLaw
/- withPlaces, the program's: a copy of a node's parts, at other places. -/
namespace Go.Proofs.YtjakeidbajkdcaaGreatDoor.T
open Go.RowKit
theorem clone_any (s : ByteArray) (h : s.size ≤ 281474976710656) (w : World) : Calls Tryz.prog 38 #[.string s] w fun e w' => e = .returned (.string s) ∧ Below w.heap.size w w' := by
  have HC := Lib.hid (Tryz.stringslite_Clone s w h)
  go_enter Tryz.func38, Tryz.ntmps38
  go_wp2_with (go_at_call 70; refine HC.out.mono ?_; rintro e w1 ⟨rfl, hb⟩)
  go_ret
  exact ⟨rfl, hb⟩
/-- Parts that are all zero. -/
def noFld : Fld := ⟨⟨#[]⟩, ⟨#[]⟩, 0⟩
theorem fmake_arr (n : Nat) (hn : n ≤ 1000000) (w : World) : Sem.run Tryz.prog (Instr.makeSlice 35 (.int .i64 (n : Int)) (.int .i64 (n : Int))) w = .ok (.slice (some ⟨w.heap.size, 0, none⟩) n n) (w.alloc (.cells (fCells (List.replicate n noFld)).toArray 97)) := by
  obtain ⟨i0, hi, hz0, hz1, hz2⟩ := info_parts fldInfo
  have h := run_make (P := Tryz.prog) w 35 97 i0 _ Tryz.underlying35 hi hz0 .i64 .i64 (n : Int) (n : Int) (by omega) (by omega) (by rw [hz2]; omega) (by omega)
  rw [h, hz1]
  have e : madeCells (Value.agg #[.string ⟨#[]⟩, .string ⟨#[]⟩, .int .i64 0]).cells (n * 3) = (fCells (List.replicate n noFld)).toArray := by
    apply Array.ext
    · simp [madeCells, fCells_len]
    · intro i h1 h2
      have hin : i < n * 3 := by simpa [fCells_len] using h2
      have hq : i / 3 < n := by omega
      have hrep : (List.replicate n noFld)[i / 3]? = some noFld := by simp [hq]
      obtain ⟨c0, c1, c2⟩ := fCells_at _ _ _ hrep
      have key : some (madeCells (Value.agg #[.string ⟨#[]⟩, .string ⟨#[]⟩, .int .i64 0]).cells (n * 3))[i] = (fCells (List.replicate n noFld))[i]? := by
        have hm : i % 3 < 3 := Nat.mod_lt _ (by omega)
        have hi' : i = i / 3 * 3 + i % 3 := by omega
        obtain ⟨r, hr⟩ : ∃ r, i % 3 = r := ⟨_, rfl⟩
        rw [hr] at hm hi'
        match r, hm with
        | 0, _ => rw [show (fCells (List.replicate n noFld))[i]? = (fCells (List.replicate n noFld))[i / 3 * 3]? by congr 1, c0]; simp [madeCells, Value.cells, hr, noFld]
        | 1, _ => rw [show (fCells (List.replicate n noFld))[i]? = (fCells (List.replicate n noFld))[i / 3 * 3 + 1]? by congr 1, c1]; simp [madeCells, Value.cells, hr, noFld]
        | 2, _ => rw [show (fCells (List.replicate n noFld))[i]? = (fCells (List.replicate n noFld))[i / 3 * 3 + 2]? by congr 1, c2]; simp [madeCells, Value.cells, hr, noFld]
      rw [List.getElem?_eq_getElem (by simpa using h2)] at key
      simpa using Option.some.inj key
  rw [Int.toNat_natCast, e]
theorem fCells_set (L : List Fld) (i : Nat) (f : Fld) (hi : i < L.length) : ((((fCells L).toArray.setIfInBounds (i * 3) (.string f.nm)).setIfInBounds (i * 3 + 1) (.string f.vr)).setIfInBounds (i * 3 + 2) (.int .i64 f.pl)) = (fCells (L.set i f)).toArray := by
  simp only [List.setIfInBounds_toArray]
  congr 1
  induction L generalizing i with
  | nil => simp at hi
  | cons g L ih =>
    cases i with
    | zero => simp [fCells]
    | succ i =>
      have e : ∀ (g : Fld) (L : List Fld), fCells (g :: L) = .string g.nm :: .string g.vr :: .int .i64 g.pl :: fCells L := fun g L => by simp [fCells]
      rw [e, List.set_cons_succ, e, ← ih i (by simpa using hi), show (i + 1) * 3 = i * 3 + 1 + 1 + 1 by omega, show i * 3 + 1 + 1 + 1 + 1 = i * 3 + 1 + 1 + 1 + 1 by rfl, show i * 3 + 1 + 1 + 1 + 2 = i * 3 + 2 + 1 + 1 + 1 by omega, show i * 3 + 1 + 1 + 1 + 1 = (i * 3 + 1) + 1 + 1 + 1 by omega]
      simp only [List.set_cons_succ]
theorem mod_eq {W : World} {g i : Nat} {L : List Fld} {f : Fld} (h : W.heap[g]? = some (.cells (fCells L).toArray 97)) (hi : i < L.length) :
    (((W.setCell ⟨g, i * 3, none⟩ (.string f.nm)).setCell ⟨g, i * 3 + 1, none⟩ (.string f.vr)).setCell ⟨g, i * 3 + 2, none⟩ (.int .i64 f.pl)).heap[g]? = some (.cells (fCells (L.set i f)).toArray 97) := by
  have h1 := blk_put (j := i * 3) (v := .string f.nm) h
  have h2 := blk_put (j := i * 3 + 1) (v := .string f.vr) h1
  have h3 := blk_put (j := i * 3 + 2) (v := .int .i64 f.pl) h2
  rw [h3, fCells_set L i f hi]
theorem fCells_pl (L : List Fld) (i : Nat) (f : Fld) (z : Int) (hf : L[i]? = some f) : (fCells L).set (i * 3 + 2) (.int .i64 z) = fCells (L.set i { f with pl := z }) := by
  have e : ∀ (g : Fld) (L : List Fld), fCells (g :: L) = .string g.nm :: .string g.vr :: .int .i64 g.pl :: fCells L := fun g L => by simp [fCells]
  induction L generalizing i with
  | nil => simp at hf
  | cons g L ih =>
    cases i with
    | zero =>
      simp at hf
      subst hf
      simp [fCells]
    | succ i =>
      rw [show (i + 1) * 3 + 2 = i * 3 + 2 + 1 + 1 + 1 by omega, e g L]
      simp only [List.set_cons_succ]
      rw [e, ← ih i (by simpa using hf)]
theorem pl_eq {W : World} {g i : Nat} {L : List Fld} {f : Fld} {z : Int} (h : W.heap[g]? = some (.cells (fCells L).toArray 97)) (hf : L[i]? = some f) :
    (W.setCell ⟨g, i * 3 + 2, none⟩ (.int .i64 z)).heap[g]? = some (.cells (fCells (L.set i { f with pl := z })).toArray 97) := by
  rw [blk_put h, List.setIfInBounds_toArray, fCells_pl L i f z hf]
/-- The parts that are done, zeros behind. -/
def FRow (l : List Fld) (ks : List Int) (i : Nat) (L : List Fld) : Prop := L = relab (l.take i) (ks.take i) ++ List.replicate (l.length - i) noFld
theorem relab_len (l : List Fld) (ks : List Int) (h : l.length = ks.length) : (relab l ks).length = l.length := by simp [relab, h]
theorem relab_snoc (l : List Fld) (ks : List Int) (h : l.length = ks.length) (f : Fld) (k : Int) : relab (l ++ [f]) (ks ++ [k]) = relab l ks ++ [{ f with pl := k }] := by
  unfold relab
  rw [List.zipWith_append h]; rfl
theorem FRow.at {l : List Fld} {ks : List Int} {i : Nat} {L : List Fld} (h : FRow l ks i L) (hl : l.length = ks.length) (hi : i < l.length) : L.length = l.length ∧ L[i]? = some noFld := by
  have h1 : (relab (l.take i) (ks.take i)).length = i := by rw [relab_len _ _ (by rw [List.length_take, List.length_take, hl]), List.length_take]; omega
  subst h
  refine ⟨by rw [List.length_append, h1, List.length_replicate]; omega, ?_⟩
  rw [List.getElem?_append_right (by omega), h1, Nat.sub_self, List.getElem?_replicate, if_pos (by omega)]
theorem FRow.step {l : List Fld} {ks : List Int} {i : Nat} {L : List Fld} (h : FRow l ks i L) (hl : l.length = ks.length) {f : Fld} {k : Int} (hf : l[i]? = some f) (hk : ks[i]? = some k) : FRow l ks (i + 1) (L.set i { f with pl := k }) := by
  have hi := lt_of_some hf
  have h1 : (relab (l.take i) (ks.take i)).length = i := by rw [relab_len _ _ (by rw [List.length_take, List.length_take, hl]), List.length_take]; omega
  unfold FRow
  subst h
  rw [take_snoc l i f hf, take_snoc ks i k hk, relab_snoc _ _ (by rw [List.length_take, List.length_take, hl]), List.set_append_right _ _ (by omega), h1, Nat.sub_self]
  rw [show l.length - i = (l.length - (i + 1)) + 1 by omega, List.replicate_succ, List.set_cons_zero, List.append_assoc]
  rfl
theorem FRow.fin {l : List Fld} {ks : List Int} {L : List Fld} (h : FRow l ks l.length L) (hl : l.length = ks.length) : L = relab l ks := by
  unfold FRow at h
  rw [Nat.sub_self, List.take_length, hl, List.take_length] at h
  simpa using h
theorem FRow.start (l : List Fld) (ks : List Int) : FRow l ks 0 (List.replicate l.length noFld) := by simp [FRow, relab]
def PlPost (l : List Fld) (w : World) (e : Ending) (w' : World) : Prop := ∃ A c, e = .returned (.slice A l.length c) ∧ OwnF w.heap.size w' (.slice A l.length c) l ∧ Below w.heap.size w w'
theorem ownF_nil (B : Nat) (W : World) : OwnF B W (.slice none 0 0) [] := World.ownsRow_nil _ _ _ _
theorem ownF_of {B g n : Nat} {W : World} {l : List Fld} (h : W.heap[g]? = some (.cells (fCells l).toArray 97)) (hB : B ≤ g) (hn : n = l.length) (hm : l.length ≤ maxLen) : OwnF B W (.slice (some ⟨g, 0, none⟩) n n) l := by
  subst hn
  exact ⟨by rw [fCells_len], .inr ⟨g, l.length, _, rfl, hB, h, Nat.le_refl _, hm, by simp [fCells_len], by exact List.take_of_length_le (by simp [fCells_len])⟩⟩
theorem places_no (k a b c n pos : Int) (nm s : ByteArray) (vl ks : Value) (HP : Hid (partsB k = false)) (w : World) :
    Calls Tryz.prog 105 #[.agg #[.int .i64 k, .int .i64 a, .int .i64 b, .int .i64 c, .int .i64 n, .string nm, .string s, vl, .int .i64 pos], ks] w (PlPost [] w) := by
  go_enter Tryz.func105, Tryz.ntmps105
  go_wp2_with (go_at_call 104; refine (hasParts_is HP.out _).mono ?_; rintro e w1 ⟨rfl, rfl⟩)
  go_ret
  exact ⟨none, 0, rfl, ownF_nil _ _, (Below.refl _ w).alloc (Nat.le_refl _) _⟩
set_option maxRecDepth 100000 in
set_option maxHeartbeats 4000000 in
theorem places_zero (k a b c n pos : Int) (nm s : ByteArray) (A : Option Addr) (cp : Nat) (ks : Value) (HP : Hid (partsB k = true)) (w : World) :
    Calls Tryz.prog 105 #[.agg #[.int .i64 k, .int .i64 a, .int .i64 b, .int .i64 c, .int .i64 n, .string nm, .string s, .slice A 0 cp, .int .i64 pos], ks] w (PlPost [] w) := by
  have hmk : ∀ w : World, Sem.run Tryz.prog (Instr.makeSlice 35 (.int .i64 0) (.int .i64 0)) w = .ok (.slice (some ⟨w.heap.size, 0, none⟩) 0 0) (w.alloc (.cells #[] 97)) := fun w => by kernel_rfl
  go_enter Tryz.func105, Tryz.ntmps105
  go_wp2_with (go_at_call 104; refine (hasParts_is HP.out _).mono ?_; rintro e w1 ⟨rfl, rfl⟩)
  go_loop [19] (fun i => i = .int .i64 0) (fun _ => 0)
  case atStart => exact rfl
  case round =>
    obtain rfl := hrel
    go_wp2
    go_ret
    exact ⟨some ⟨w.heap.size + 1, 0, none⟩, 0, rfl, ownF_of (l := []) (heap_new _ _ _ (by simp)) (by omega) rfl (by simp [maxLen]), ((Below.refl _ w).alloc (Nat.le_refl _) _).alloc (by simp) _⟩
end Go.Proofs.YtjakeidbajkdcaaGreatDoor.T
/- withPlaces, the program's, of some parts. -/
namespace Go.Proofs.YtjakeidbajkdcaaGreatDoor.T
open Go.RowKit
/-- Whole numbers from a place of a block on. -/
def Row1 (W : World) (g o : Nat) (U : List Int) : Prop := ∀ j z, U[j]? = some z → W.cell? ⟨g, o + j, none⟩ = some (.int .i64 z)
theorem Row1.below {B : Nat} {W W' : World} {g o : Nat} {U : List Int} (h : Row1 W g o U) (hb : Below B W W') (hg : g < B) : Row1 W' g o U := fun j z hz => (hb.cell (p := ⟨g, _, none⟩) hg).trans (h j z hz)
set_option maxRecDepth 100000 in
set_option maxHeartbeats 8000000 in
theorem places_pos (k a b c n pos : Int) (nm s : ByteArray) (l : List Fld) (L cp fb fo : Nat) (ks : List Int) (gk ko ck : Nat) (HP : Hid (partsB k = true)) (HL : Hid (l.length = L)) (HKL : Hid (ks.length = L)) (hL0 : 0 < L) (hL : L ≤ 1000000) (w : World) (hfb : fb < w.heap.size) (hgk : gk < w.heap.size) (HF : Hid (FldsAt w fb fo l)) (HR : Hid (Row1 w gk ko ks)) (HS : Hid (∀ f ∈ l, f.nm.size ≤ 281474976710656 ∧ f.vr.size ≤ 281474976710656)) :
    Calls Tryz.prog 105 #[.agg #[.int .i64 k, .int .i64 a, .int .i64 b, .int .i64 c, .int .i64 n, .string nm, .string s, .slice (some ⟨fb, fo, none⟩) L cp, .int .i64 pos], .slice (some ⟨gk, ko, none⟩) L ck] w (PlPost (relab l ks) w) := by
  have hmk := fmake_arr L hL
  obtain ⟨w1, hw1⟩ : ∃ w1, (w.alloc (.cells #[.int .i64 k, .int .i64 a, .int .i64 b, .int .i64 c, .int .i64 n, .string nm, .string s, .slice (some ⟨fb, fo, none⟩) L cp, .int .i64 pos] 37)).alloc (.cells (fCells (List.replicate L noFld)).toArray 97) = w1 := ⟨_, rfl⟩
  have hmk1 := hmk (w.alloc (.cells #[.int .i64 k, .int .i64 a, .int .i64 b, .int .i64 c, .int .i64 n, .string nm, .string s, .slice (some ⟨fb, fo, none⟩) L cp, .int .i64 pos] 37))
  rw [hw1, World.size_alloc] at hmk1
  have HG1 : Hid (w1.heap[w.heap.size + 1]? = some (.cells (fCells (List.replicate L noFld)).toArray 97)) := Lib.hid (by rw [← hw1]; exact heap_new _ _ _ (by simp))
  have HB1 : Hid (Below w.heap.size w w1) := Lib.hid (by rw [← hw1]; exact ((Below.refl _ w).alloc (Nat.le_refl _) _).alloc (by simp) _)
  have hc7 : w1.cell? ⟨w.heap.size, 7, none⟩ = some (.slice (some ⟨fb, fo, none⟩) L cp) := by
    rw [← hw1, cell_under1 _ _ _ _ (by simp)]
    exact new_cellsT' w 37 [.int .i64 k, .int .i64 a, .int .i64 b, .int .i64 c, .int .i64 n, .string nm, .string s, .slice (some ⟨fb, fo, none⟩) L cp, .int .i64 pos] 7 _ rfl
  clear hmk hw1
  go_enter Tryz.func105, Tryz.ntmps105
  go_wp2_with (go_at_call 104; refine (hasParts_is HP.out _).mono ?_; rintro e w1 ⟨rfl, rfl⟩)
  go_loopw [19] (fun v wr => ∃ (i : Nat) (LL : List Fld), v = .int .i64 (i : Int) ∧ i ≤ L ∧ Hid (wr.heap[w.heap.size + 1]? = some (.cells (fCells LL).toArray 97)) ∧ Hid (FRow l ks i LL) ∧ Hid (Below w.heap.size w wr)) (fun v _ => L - (intOf v).toNat)
  case atStart => exact ⟨0, _, rfl, Nat.zero_le _, HG1, Lib.hid (HL.out ▸ FRow.start l ks), HB1⟩
  case round =>
    obtain ⟨i, LL, rfl, hi, HG, HD, HB⟩ := hrel
    have hgs : w.heap.size + 1 < wr.heap.size := (Array.getElem?_eq_some_iff.1 HG.out).1
    by_cases hlt : i < L
    · obtain ⟨fd, hfd⟩ : ∃ fd, l[i]? = some fd := ⟨_, List.getElem?_eq_getElem (by rw [HL.out]; exact hlt)⟩
      obtain ⟨kk, hkk⟩ : ∃ kk, ks[i]? = some kk := ⟨_, List.getElem?_eq_getElem (by rw [HKL.out]; exact hlt)⟩
      obtain ⟨m0, m1, m2⟩ := (HF.out.below HB.out hfb) i fd hfd
      have HS1 := Lib.hid (HS.out fd (List.mem_of_getElem? hfd))
      have HX := Lib.hid hfd
      have HKK := Lib.hid hkk
      have HLL := Lib.hid (HD.out.at (by rw [HL.out, HKL.out]) (by rw [HL.out]; exact hlt))
      obtain ⟨z0, z1, z2⟩ := fCells_at LL i noFld HLL.out.2
      have g0 := (Blk_cell HG.out (i * 3)).trans (by rw [List.getElem?_toArray, z0])
      have g1 := (Blk_cell HG.out (i * 3 + 1)).trans (by rw [List.getElem?_toArray, z1])
      have g2 := (Blk_cell HG.out (i * 3 + 2)).trans (by rw [List.getElem?_toArray, z2])
      have f0 := Blk_frozen HG.out (i * 3)
      have f1 := Blk_frozen HG.out (i * 3 + 1)
      have f2 := Blk_frozen HG.out (i * 3 + 2)
      clear hfd hkk z0 z1 z2
      have hq0 : w.heap.size + 1 < wr.heap.size + 1 := by omega
      go_wp2_with fail
      have HC0 : Hid (Below (wr.alloc (.cells #[.string fd.nm, .string fd.vr, .int .i64 fd.pl] 97)).heap.size (wr.alloc (.cells #[.string fd.nm, .string fd.vr, .int .i64 fd.pl] 97)) (wr.alloc (.cells #[.string fd.nm, .string fd.vr, .int .i64 fd.pl] 97)).drew) := Lib.hid (Below.refl _ _).drew
      go_region_with (go_at_call 38; refine (clone_any _ (by first | exact HS1.out.1 | exact HS1.out.2) _).mono ?_; rintro e w2 ⟨rfl, hb2⟩; obtain ⟨hc, hf⟩ := bcellT hb2; have HC0 := Lib.hid (HC0.out.trans (hb2.mono HC0.out.size)); have hq := HC0.out.size; rw [World.size_alloc] at hq; have hqa : w.heap.size + 1 < w2.heap.size := (by omega); have hqb : wr.heap.size < w2.heap.size := (by omega); clear hb2 hq)
      all_goals
        have HG2 := Lib.hid ((HC0.out.block (w.heap.size + 1) (by rw [World.size_alloc]; omega)).trans (((Below.refl wr.heap.size wr).alloc (Nat.le_refl _) (.cells #[.string fd.nm, .string fd.vr, .int .i64 fd.pl] 97)).block (w.heap.size + 1) hgs |>.trans HG.out))
        have HG3 := Lib.hid (mod_eq (f := ⟨fd.nm, fd.vr, 0⟩) HG2.out (by rw [HLL.out.1, HL.out]; exact hlt))
        have HB2 := Lib.hid (((HB.out.alloc HB.out.size (.cells #[.string fd.nm, .string fd.vr, .int .i64 fd.pl] 97))).trans (HC0.out.mono (by rw [World.size_alloc]; have := HB.out.size; omega)))
        have HB3 := Lib.hid (((HB2.out.setCell (p := ⟨w.heap.size + 1, i * 3, none⟩) (by simp) (.string fd.nm)).setCell (p := ⟨w.heap.size + 1, i * 3 + 1, none⟩) (by simp) (.string fd.vr)).setCell (p := ⟨w.heap.size + 1, i * 3 + 2, none⟩) (by simp) (.int .i64 0))
        have hk3 := (HR.out.below HB3.out hgk) i kk HKK.out
        have HLS : Hid ((LL.set i ⟨fd.nm, fd.vr, 0⟩)[i]? = some ⟨fd.nm, fd.vr, 0⟩) := Lib.hid (by rw [List.getElem?_set_self (by rw [HLL.out.1, HL.out]; exact hlt)])
        have g5 := (Blk_cell HG3.out (i * 3 + 2)).trans (by rw [List.getElem?_toArray, (fCells_at _ _ _ HLS.out).2.2])
        have f5 := Blk_frozen HG3.out (i * 3 + 2)
        clear hc hf g0 g1 g2 f0 f1 f2 hqa hqb hq0
        go_wp2
        go_roundw
        case rel =>
          refine ⟨i + 1, LL.set i { fd with pl := kk }, by go_num, by omega, Lib.hid ?_, Lib.hid (HD.out.step (by rw [HL.out, HKL.out]) HX.out HKK.out), Lib.hid (HB3.out.setCell (p := ⟨w.heap.size + 1, i * 3 + 2, none⟩) (by simp) _)⟩
          have h := pl_eq (z := kk) HG3.out HLS.out
          rw [List.set_set] at h
          exact h
        case measure => simp [intOf]; omega
    · obtain rfl : i = L := by omega
      have HE := Lib.hid (FRow.fin (HL.out ▸ HD.out : FRow l ks l.length LL) (by rw [HL.out, HKL.out]))
      go_wp2
      go_ret
      have hlen : (relab l ks).length = i := by rw [relab_len l ks (by rw [HL.out, HKL.out]), HL.out]
      exact ⟨some ⟨w.heap.size + 1, 0, none⟩, i, by rw [hlen]; rfl, by rw [hlen]; exact ownF_of (HE.out ▸ HG.out) (by omega) hlen.symm (by unfold maxLen; omega), HB.out⟩
/-- withPlaces at whatever node; l: the places behind its own children. -/
theorem places_any (x : Nd) (a b c : Int) (vl : Value) (ks : List Int) (A : Option Addr) (ck : Nat) (w : World) (hv : Flds w.heap.size w vl x.l) (hL : x.l.length ≤ 1000000) (hS : ∀ f ∈ x.l, f.nm.size ≤ 281474976710656 ∧ f.vr.size ≤ 281474976710656) (hk : partsB x.kind = true → ks.length = x.l.length) (hA : 0 < ks.length → ∃ gk ko, A = some ⟨gk, ko, none⟩ ∧ gk < w.heap.size ∧ Row1 w gk ko ks) :
    Calls Tryz.prog 105 #[.agg (ndArr { x with a := a, b := b, c := c } vl), .slice A ks.length ck] w (PlPost (if many x = true then relab x.l ks else []) w) := by
  obtain ⟨k, a0, b0, c0, n, nm, s, l, pos⟩ := x
  simp only at hv hL hS hk
  obtain ⟨FA, cp, rfl, _, _, hq⟩ := hv
  have hm : many ⟨k, a0, b0, c0, n, nm, s, l, pos⟩ = partsB k := rfl
  rw [hm]
  cases hp : partsB k with
  | false =>
    rw [if_neg (by simp)]
    exact places_no k a b c n pos nm s _ _ (Lib.hid hp) w
  | true =>
    rw [if_pos rfl]
    have hk' := hk hp
    by_cases h0 : 0 < l.length
    · obtain ⟨fb, fo, rfl, hlt, hf⟩ := hq h0
      obtain ⟨gk, ko, rfl, hgk, hr⟩ := hA (by omega)
      have := places_pos k a b c n pos nm s l l.length cp fb fo ks gk ko ck (Lib.hid hp) (Lib.hid rfl) (Lib.hid hk') h0 hL w hlt hgk (Lib.hid hf) (Lib.hid hr) (Lib.hid hS)
      rw [hk']
      exact this
    · obtain rfl : l = [] := List.eq_nil_of_length_eq_zero (by omega)
      have e : relab [] ks = [] := by simp [relab]
      rw [e]
      exact places_zero k a b c n pos nm s FA cp _ (Lib.hid hp) w
end Go.Proofs.YtjakeidbajkdcaaGreatDoor.T
/- withKids, the program's: a copy of a node with other children. -/
namespace Go.Proofs.YtjakeidbajkdcaaGreatDoor.T
open Go.RowKit
/-- What withKids answers: these cells, but for the parts, which are the call's own. -/
def WPost (cs : Value → Array Value) (l : List Fld) (w : World) (e : Ending) (w' : World) : Prop := ∃ A c, e = .returned (.agg (cs (.slice A l.length c))) ∧ OwnF w.heap.size w' (.slice A l.length c) l ∧ Below w.heap.size w w'
theorem res33 (tmps : Array Value) (W : World) (p : Nat) (v0 v1 v2 v3 v4 v5 v6 v7 v8 : Value) (h2 : tmps[4]?.getD undef = .pointer (some ⟨p, 0, none⟩)) (hb : W.heap[p]? = some (.cells #[v0, v1, v2, v3, v4, v5, v6, v7, v8] 37 (0, 0))) :
    Sem.run Tryz.prog (results Tryz.f62 tmps) W = .ok (.agg #[v0, v1, v2, v3, v4, v5, v6, v7, v8]) W := by
  have c0 := Blk_cell hb 0
  have c1 := Blk_cell hb 1
  have c2 := Blk_cell hb 2
  have c3 := Blk_cell hb 3
  have c4 := Blk_cell hb 4
  have c5 := Blk_cell hb 5
  have c6 := Blk_cell hb 6
  have c7 := Blk_cell hb 7
  have c8 := Blk_cell hb 8
  simp [results, Tryz.results62, go_sem, h2, c0, c1, c2, c3, c4, c5, c6, c7, c8]
theorem set_far (W : World) (b j k : Nat) (v : Value) (h : k ≠ b) : (W.setCell ⟨b, j, none⟩ v).heap[k]? = W.heap[k]? := by
  show (W.heap.modify b _)[k]? = _
  rw [Array.getElem?_modify, if_neg (fun e => h e.symm)]
theorem cells9 {W : World} {b : Nat} {c0 c1 c2 c3 c4 c5 c6 c7 c8 : Value} (h : W.heap[b]? = some (.cells #[c0, c1, c2, c3, c4, c5, c6, c7, c8] 37 (0, 0))) :
    W.cell? ⟨b, 0, none⟩ = some c0 ∧ W.cell? ⟨b, 1, none⟩ = some c1 ∧ W.cell? ⟨b, 2, none⟩ = some c2 ∧ W.cell? ⟨b, 3, none⟩ = some c3 ∧ W.cell? ⟨b, 4, none⟩ = some c4 ∧ W.cell? ⟨b, 5, none⟩ = some c5 ∧ W.cell? ⟨b, 6, none⟩ = some c6 ∧ W.cell? ⟨b, 7, none⟩ = some c7 ∧ W.cell? ⟨b, 8, none⟩ = some c8 ∧ ∀ j, W.frozen? ⟨b, j, none⟩ = false :=
  ⟨(Blk_cell h 0).trans rfl, (Blk_cell h 1).trans rfl, (Blk_cell h 2).trans rfl, (Blk_cell h 3).trans rfl, (Blk_cell h 4).trans rfl, (Blk_cell h 5).trans rfl, (Blk_cell h 6).trans rfl, (Blk_cell h 7).trans rfl, (Blk_cell h 8).trans rfl, fun j => Blk_frozen h j⟩
theorem ownF_set {B b j : Nat} {W : World} {v u : Value} {l : List Fld} (h : OwnF B W v l) (hb : b < B) : OwnF B (W.setCell ⟨b, j, none⟩ u) v l :=
  World.ownsRow.kept h (grown_set W b j u) (by
    cases hv : v.ownBlock with
    | none => exact .inl rfl
    | some k =>
      refine .inr (fun e => ?_)
      have := (World.ownsRow.lt h k hv).1
      injection e with e
      omega)
theorem ownF_set9 {B b : Nat} {W : World} {v v0 v1 v2 v3 v4 v5 v6 v7 v8 : Value} {l : List Fld} (h : OwnF B W v l) (hb : b < B) :
    OwnF B (((((((((W.setCell ⟨b, 0, none⟩ v0).setCell ⟨b, 1, none⟩ v1).setCell ⟨b, 2, none⟩ v2).setCell ⟨b, 3, none⟩ v3).setCell ⟨b, 4, none⟩ v4).setCell ⟨b, 5, none⟩ v5).setCell ⟨b, 6, none⟩ v6).setCell ⟨b, 7, none⟩ v7).setCell ⟨b, 8, none⟩ v8) v l :=
  ownF_set (ownF_set (ownF_set (ownF_set (ownF_set (ownF_set (ownF_set (ownF_set (ownF_set h hb) hb) hb) hb) hb) hb) hb) hb) hb
/-- Nine cells stored into a block of nine. -/
theorem store9 {W : World} {b : Nat} {v0 v1 v2 v3 v4 v5 v6 v7 v8 c0 c1 c2 c3 c4 c5 c6 c7 c8 : Value} (h : W.heap[b]? = some (.cells #[c0, c1, c2, c3, c4, c5, c6, c7, c8] 37 (0, 0))) :
    (((((((((W.setCell ⟨b, 0, none⟩ v0).setCell ⟨b, 1, none⟩ v1).setCell ⟨b, 2, none⟩ v2).setCell ⟨b, 3, none⟩ v3).setCell ⟨b, 4, none⟩ v4).setCell ⟨b, 5, none⟩ v5).setCell ⟨b, 6, none⟩ v6).setCell ⟨b, 7, none⟩ v7).setCell ⟨b, 8, none⟩ v8).heap[b]? = some (.cells #[v0, v1, v2, v3, v4, v5, v6, v7, v8] 37 (0, 0)) := by
  have h2 := blk_put (j := 0) (v := v0) h
  have h3 := blk_put (j := 1) (v := v1) h2
  have h4 := blk_put (j := 2) (v := v2) h3
  have h5 := blk_put (j := 3) (v := v3) h4
  have h6 := blk_put (j := 4) (v := v4) h5
  have h7 := blk_put (j := 5) (v := v5) h6
  have h8 := blk_put (j := 6) (v := v6) h7
  have h9 := blk_put (j := 7) (v := v7) h8
  have h10 := blk_put (j := 8) (v := v8) h9
  rw [h10]
  simp
theorem grow9 {B : Nat} {W : World} {b : Nat} (hb : B ≤ b) {v0 v1 v2 v3 v4 v5 v6 v7 v8 : Value} :
    Below B W (((((((((W.setCell ⟨b, 0, none⟩ v0).setCell ⟨b, 1, none⟩ v1).setCell ⟨b, 2, none⟩ v2).setCell ⟨b, 3, none⟩ v3).setCell ⟨b, 4, none⟩ v4).setCell ⟨b, 5, none⟩ v5).setCell ⟨b, 6, none⟩ v6).setCell ⟨b, 7, none⟩ v7).setCell ⟨b, 8, none⟩ v8) :=
  (((((((((Below.refl B W).setCell (p := ⟨b, 0, none⟩) hb v0).setCell (p := ⟨b, 1, none⟩) hb v1).setCell (p := ⟨b, 2, none⟩) hb v2).setCell (p := ⟨b, 3, none⟩) hb v3).setCell (p := ⟨b, 4, none⟩) hb v4).setCell (p := ⟨b, 5, none⟩) hb v5).setCell (p := ⟨b, 6, none⟩) hb v6).setCell (p := ⟨b, 7, none⟩) hb v7).setCell (p := ⟨b, 8, none⟩) hb v8
end Go.Proofs.YtjakeidbajkdcaaGreatDoor.T
/- withKids, the program's, of a node with so many own children. -/
namespace Go.Proofs.YtjakeidbajkdcaaGreatDoor.T
open Go.RowKit
set_option maxRecDepth 100000 in
set_option maxHeartbeats 8000000 in
theorem wk_0 (k a b c n pos : Int) (nm s : ByteArray) (FA : Option Addr) (FL fc : Nat) (KL gk ck : Nat) (rl : List Fld) (HO : Hid (ownN k = 0)) (hKL : 0 ≤ KL) (hck : KL ≤ ck) (hS : nm.size ≤ 281474976710656 ∧ s.size ≤ 281474976710656) (w : World) (hgk : gk < w.heap.size) (HR : Hid (∀ (j : Nat) (z : Int), ([] : List Int)[j]? = some z → w.cell? ⟨gk, j, none⟩ = some (.int .i64 z)))
    (HPL : Hid (∀ (A : Option Addr) (w1 : World), Below w.heap.size w w1 → (0 < ck → A = some ⟨gk, 0, none⟩) → Calls Tryz.prog 105 #[.agg #[.int .i64 k, .int .i64 0, .int .i64 0, .int .i64 0, .int .i64 n, .string nm, .string s, .slice FA FL fc, .int .i64 pos], .slice A (KL - 0) (ck - 0)] w1 (PlPost rl w1))) :
    Calls Tryz.prog 62 #[.agg #[.int .i64 k, .int .i64 a, .int .i64 b, .int .i64 c, .int .i64 n, .string nm, .string s, .slice FA FL fc, .int .i64 pos], .slice (some ⟨gk, 0, none⟩) KL ck] w (WPost (fun v => #[.int .i64 k, .int .i64 0, .int .i64 0, .int .i64 0, .int .i64 n, .string nm, .string s, v, .int .i64 pos]) rl w) := by
  obtain ⟨w1, hw1⟩ : ∃ w1, ((w.alloc (.cells #[.int .i64 k, .int .i64 a, .int .i64 b, .int .i64 c, .int .i64 n, .string nm, .string s, .slice FA FL fc, .int .i64 pos] 37)).alloc (.cells #[.int .i64 0, .int .i64 0, .int .i64 0, .int .i64 0, .int .i64 0, .string ⟨#[]⟩, .string ⟨#[]⟩, .slice none 0 0, .int .i64 0] 37)).alloc (.cells #[.int .i64 0, .int .i64 0, .int .i64 0] 115) = w1 := ⟨_, rfl⟩
  have hs1 : w1.heap.size = w.heap.size + 3 := by rw [← hw1]; simp
  have hB1 : Below w.heap.size w w1 := by rw [← hw1]; exact below3 (Nat.le_refl _) _ _ _
  have hg1 : w1.heap[w.heap.size + 2]? = some (.cells #[.int .i64 0, .int .i64 0, .int .i64 0] 115) := by rw [← hw1]; exact heap_new _ _ _ (by simp)
  have hr1 : w1.heap[w.heap.size + 1]? = some (.cells #[.int .i64 0, .int .i64 0, .int .i64 0, .int .i64 0, .int .i64 0, .string ⟨#[]⟩, .string ⟨#[]⟩, .slice none 0 0, .int .i64 0] 37) := by
    rw [← hw1, ((Below.refl (w.heap.size + 2) ((w.alloc (.cells #[.int .i64 k, .int .i64 a, .int .i64 b, .int .i64 c, .int .i64 n, .string nm, .string s, .slice FA FL fc, .int .i64 pos] 37)).alloc (.cells #[.int .i64 0, .int .i64 0, .int .i64 0, .int .i64 0, .int .i64 0, .string ⟨#[]⟩, .string ⟨#[]⟩, .slice none 0 0, .int .i64 0] 37))).alloc (by simp) (.cells #[.int .i64 0, .int .i64 0, .int .i64 0] 115)).block _ (by omega)]
    exact heap_new _ _ _ (by simp)
  have hx1 : w1.heap[w.heap.size]? = some (.cells #[.int .i64 k, .int .i64 a, .int .i64 b, .int .i64 c, .int .i64 n, .string nm, .string s, .slice FA FL fc, .int .i64 pos] 37) := by
    rw [← hw1, ((Below.refl (w.heap.size + 2) ((w.alloc (.cells #[.int .i64 k, .int .i64 a, .int .i64 b, .int .i64 c, .int .i64 n, .string nm, .string s, .slice FA FL fc, .int .i64 pos] 37)).alloc (.cells #[.int .i64 0, .int .i64 0, .int .i64 0, .int .i64 0, .int .i64 0, .string ⟨#[]⟩, .string ⟨#[]⟩, .slice none 0 0, .int .i64 0] 37))).alloc (by simp) (.cells #[.int .i64 0, .int .i64 0, .int .i64 0] 115)).block _ (by omega), ((Below.refl (w.heap.size + 1) (w.alloc (.cells #[.int .i64 k, .int .i64 a, .int .i64 b, .int .i64 c, .int .i64 n, .string nm, .string s, .slice FA FL fc, .int .i64 pos] 37))).alloc (by simp) (.cells #[.int .i64 0, .int .i64 0, .int .i64 0, .int .i64 0, .int .i64 0, .string ⟨#[]⟩, .string ⟨#[]⟩, .slice none 0 0, .int .i64 0] 37)).block _ (by omega)]
    exact heap_new _ _ _ rfl
  obtain ⟨W4, hcp, hg4, hb4, hot⟩ := copy_at w1 (w.heap.size + 2) 0 3 ⟨gk, 0, none⟩ KL ck [.int .i64 0, .int .i64 0, .int .i64 0] (([] : List Int).map (Value.int .i64)) 115 hg1 (by show 0 = min KL 0; omega) (fun j v hv => by
    rw [List.getElem?_map, Option.map_eq_some_iff] at hv
    obtain ⟨z, hz, rfl⟩ := hv
    rw [Addr.add_lit, Nat.zero_add, hB1.cell (p := ⟨gk, j, none⟩) hgk]
    exact HR.out j z hz) (by simp) oneInt
  have hg4' : W4.heap[w.heap.size + 2]? = some (.cells #[.int .i64 0, .int .i64 0, .int .i64 0] 115) := by rw [hg4]; rfl
  have hr4 := (hot (w.heap.size + 1) (by omega)).trans hr1
  have hx4 := (hot w.heap.size (by omega)).trans hx1
  have HB4 := Lib.hid (hB1.trans (hb4.mono (by omega)))
  have HX4 := Lib.hid hx4
  have HR4 := Lib.hid hr4
  have hs4 := hb4.size
  rw [← hw1] at hcp
  have o0 := Blk_cell hg4' 0
  have o1 := Blk_cell hg4' 1
  have o2 := Blk_cell hg4' 2
  have b0 := Blk_cell hx4 0
  have f1 := Blk_frozen hx4 1
  have f2 := Blk_frozen hx4 2
  have f3 := Blk_frozen hx4 3
  have b1 := Blk_cell hx4 1
  have b2 := Blk_cell hx4 2
  have b3 := Blk_cell hx4 3
  simp only [List.getElem?_toArray, List.getElem?_cons_zero, List.getElem?_cons_succ] at o0 o1 o2 b0 b1 b2 b3
  clear hg1 hr1 hx1 hot hg4 hg4' hr4 hx4 hb4 hw1 hB1
  by_cases hcm : 0 < ck
  · go_enter Tryz.func62, Tryz.ntmps62
    go_wp2_with (go_at_call 103; refine (ownKids_is HO.out _).mono ?_; rintro e w1 ⟨rfl, rfl⟩)
    go_region
    obtain ⟨W5, hW5⟩ : ∃ W5, (((W4.setCell ⟨w.heap.size, 1, none⟩ (.int .i64 0)).setCell ⟨w.heap.size, 2, none⟩ (.int .i64 0)).setCell ⟨w.heap.size, 3, none⟩ (.int .i64 0)).drew = W5 := ⟨_, rfl⟩
    rw [hW5]
    have HX5 : Hid (W5.heap[w.heap.size]? = some (.cells #[.int .i64 k, .int .i64 0, .int .i64 0, .int .i64 0, .int .i64 n, .string nm, .string s, .slice FA FL fc, .int .i64 pos] 37)) := Lib.hid (by
      rw [← hW5]
      exact (blk_put (j := 3) (blk_put (j := 2) (blk_put (j := 1) HX4.out))))
    have HR5 : Hid (W5.heap[w.heap.size + 1]? = some (.cells #[.int .i64 0, .int .i64 0, .int .i64 0, .int .i64 0, .int .i64 0, .string ⟨#[]⟩, .string ⟨#[]⟩, .slice none 0 0, .int .i64 0] 37)) := Lib.hid (by
      rw [← hW5]
      exact (set_far _ _ _ _ _ (by omega)).trans ((set_far _ _ _ _ _ (by omega)).trans ((set_far _ _ _ _ _ (by omega)).trans HR4.out)))
    have HB5 : Hid (Below w.heap.size w W5) := Lib.hid (by
      rw [← hW5]
      exact (((HB4.out.setCell (p := ⟨w.heap.size, 1, none⟩) (Nat.le_refl _) _).setCell (p := ⟨w.heap.size, 2, none⟩) (Nat.le_refl _) _).setCell (p := ⟨w.heap.size, 3, none⟩) (Nat.le_refl _) _).drew)
    have b5 : W5.cell? ⟨w.heap.size, 5, none⟩ = some (.string nm) := (Blk_cell HX5.out 5).trans rfl
    have b6 : W5.cell? ⟨w.heap.size, 6, none⟩ = some (.string s) := (Blk_cell HX5.out 6).trans rfl
    have f5 := Blk_frozen HX5.out 5
    have f6 := Blk_frozen HX5.out 6
    have hx5 : w.heap.size < W5.heap.size := (Array.getElem?_eq_some_iff.1 HX5.out).1
    have hy5 : w.heap.size + 1 < W5.heap.size := (Array.getElem?_eq_some_iff.1 HR5.out).1
    clear hW5 o0 o1 o2 b0 b1 b2 b3 f1 f2 f3
    have HC0 : Hid (Below W5.heap.size W5 W5.drew) := Lib.hid (Below.refl _ _).drew
    go_wp2_with fail
    go_region_with (go_at_call 38; refine (clone_any _ (by first | exact hS.1 | exact hS.2) _).mono ?_; rintro e w2 ⟨rfl, hb2⟩; have HC0 := Lib.hid (HC0.out.trans (hb2.mono HC0.out.size)); have d5 := (HC0.out.cell (p := ⟨w.heap.size, 5, none⟩) hx5).trans b5; have d6 := (HC0.out.cell (p := ⟨w.heap.size, 6, none⟩) hx5).trans b6; have g5 := (HC0.out.frozen (p := ⟨w.heap.size, 5, none⟩) hx5).trans f5; have g6 := (HC0.out.frozen (p := ⟨w.heap.size, 6, none⟩) hx5).trans f6; clear hb2)
    all_goals
      obtain ⟨W6, hW6⟩ : ∃ W6, (w2.setCell ⟨w.heap.size, 5, none⟩ (.string nm)).setCell ⟨w.heap.size, 6, none⟩ (.string s) = W6 := ⟨_, rfl⟩
      rw [hW6]
      have HX6 : Hid (W6.heap[w.heap.size]? = some (.cells #[.int .i64 k, .int .i64 0, .int .i64 0, .int .i64 0, .int .i64 n, .string nm, .string s, .slice FA FL fc, .int .i64 pos] 37)) := Lib.hid (by rw [← hW6]; exact blk_put (j := 6) (blk_put (j := 5) ((HC0.out.block w.heap.size hx5).trans HX5.out)))
      have HR6 : Hid (W6.heap[w.heap.size + 1]? = some (.cells #[.int .i64 0, .int .i64 0, .int .i64 0, .int .i64 0, .int .i64 0, .string ⟨#[]⟩, .string ⟨#[]⟩, .slice none 0 0, .int .i64 0] 37)) := Lib.hid (by rw [← hW6]; exact (set_far _ _ _ _ _ (by omega)).trans ((set_far _ _ _ _ _ (by omega)).trans ((HC0.out.block (w.heap.size + 1) hy5).trans HR5.out)))
      have HB6 : Hid (Below w.heap.size w W6) := Lib.hid (by rw [← hW6]; exact ((HB5.out.trans (HC0.out.mono HB5.out.size)).setCell (p := ⟨w.heap.size, 5, none⟩) (Nat.le_refl _) _).setCell (p := ⟨w.heap.size, 6, none⟩) (Nat.le_refl _) _)
      have hz6 : w.heap.size + 1 < W6.heap.size := (Array.getElem?_eq_some_iff.1 HR6.out).1
      obtain ⟨x0, x1, x2, x3, x4, x5, x6, x7, x8, xf⟩ := cells9 HX6.out
      clear hW6 b5 b6 f5 f6 d5 d6 g5 g6
      go_wp2_with (go_at_call 105; refine (HPL.out _ _ HB6.out (fun _ => rfl)).mono ?_; rintro e w7 ⟨A7, c7, rfl, hown7, hb7⟩; have HX7 := Lib.hid ((hb7.block w.heap.size (by omega)).trans HX6.out); have HR7 := Lib.hid ((hb7.block (w.heap.size + 1) hz6).trans HR6.out); obtain ⟨y0, y1, y2, y3, y4, y5, y6, y7, y8, yf⟩ := cells9 HX7.out; obtain ⟨r0, r1, r2, r3, r4, r5, r6, r7, r8, rf⟩ := cells9 HR7.out; have HO7 := Lib.hid hown7; have HB7 := Lib.hid (HB6.out.trans (hb7.mono (by omega))); clear hown7 hb7)
      exact bodyPost_ret (v := .agg #[.int .i64 k, .int .i64 0, .int .i64 0, .int .i64 0, .int .i64 n, .string nm, .string s, (.slice A7 rl.length c7), .int .i64 pos]) (res33 _ _ (w.heap.size + 1) _ _ _ _ _ _ _ _ _ (by simp) (store9 ((set_far _ _ _ _ _ (by omega)).trans HR7.out))) rfl ⟨A7, c7, rfl, row_mono (ownF_set9 (ownF_set HO7.out (by omega)) (by omega)) (by omega), (HB7.out.setCell (p := ⟨w.heap.size, 7, none⟩) (Nat.le_refl _) _).trans (grow9 (by omega))⟩
  · (obtain rfl : ck = 0 := by omega)
    obtain rfl : KL = 0 := by omega
    go_enter Tryz.func62, Tryz.ntmps62
    go_wp2_with (go_at_call 103; refine (ownKids_is HO.out _).mono ?_; rintro e w1 ⟨rfl, rfl⟩)
    go_region
    obtain ⟨W5, hW5⟩ : ∃ W5, (((W4.setCell ⟨w.heap.size, 1, none⟩ (.int .i64 0)).setCell ⟨w.heap.size, 2, none⟩ (.int .i64 0)).setCell ⟨w.heap.size, 3, none⟩ (.int .i64 0)).drew = W5 := ⟨_, rfl⟩
    rw [hW5]
    have HX5 : Hid (W5.heap[w.heap.size]? = some (.cells #[.int .i64 k, .int .i64 0, .int .i64 0, .int .i64 0, .int .i64 n, .string nm, .string s, .slice FA FL fc, .int .i64 pos] 37)) := Lib.hid (by
      rw [← hW5]
      exact (blk_put (j := 3) (blk_put (j := 2) (blk_put (j := 1) HX4.out))))
    have HR5 : Hid (W5.heap[w.heap.size + 1]? = some (.cells #[.int .i64 0, .int .i64 0, .int .i64 0, .int .i64 0, .int .i64 0, .string ⟨#[]⟩, .string ⟨#[]⟩, .slice none 0 0, .int .i64 0] 37)) := Lib.hid (by
      rw [← hW5]
      exact (set_far _ _ _ _ _ (by omega)).trans ((set_far _ _ _ _ _ (by omega)).trans ((set_far _ _ _ _ _ (by omega)).trans HR4.out)))
    have HB5 : Hid (Below w.heap.size w W5) := Lib.hid (by
      rw [← hW5]
      exact (((HB4.out.setCell (p := ⟨w.heap.size, 1, none⟩) (Nat.le_refl _) _).setCell (p := ⟨w.heap.size, 2, none⟩) (Nat.le_refl _) _).setCell (p := ⟨w.heap.size, 3, none⟩) (Nat.le_refl _) _).drew)
    have b5 : W5.cell? ⟨w.heap.size, 5, none⟩ = some (.string nm) := (Blk_cell HX5.out 5).trans rfl
    have b6 : W5.cell? ⟨w.heap.size, 6, none⟩ = some (.string s) := (Blk_cell HX5.out 6).trans rfl
    have f5 := Blk_frozen HX5.out 5
    have f6 := Blk_frozen HX5.out 6
    have hx5 : w.heap.size < W5.heap.size := (Array.getElem?_eq_some_iff.1 HX5.out).1
    have hy5 : w.heap.size + 1 < W5.heap.size := (Array.getElem?_eq_some_iff.1 HR5.out).1
    clear hW5 o0 o1 o2 b0 b1 b2 b3 f1 f2 f3
    have HC0 : Hid (Below W5.heap.size W5 W5.drew) := Lib.hid (Below.refl _ _).drew
    go_wp2_with fail
    go_region_with (go_at_call 38; refine (clone_any _ (by first | exact hS.1 | exact hS.2) _).mono ?_; rintro e w2 ⟨rfl, hb2⟩; have HC0 := Lib.hid (HC0.out.trans (hb2.mono HC0.out.size)); have d5 := (HC0.out.cell (p := ⟨w.heap.size, 5, none⟩) hx5).trans b5; have d6 := (HC0.out.cell (p := ⟨w.heap.size, 6, none⟩) hx5).trans b6; have g5 := (HC0.out.frozen (p := ⟨w.heap.size, 5, none⟩) hx5).trans f5; have g6 := (HC0.out.frozen (p := ⟨w.heap.size, 6, none⟩) hx5).trans f6; clear hb2)
    all_goals
      obtain ⟨W6, hW6⟩ : ∃ W6, (w2.setCell ⟨w.heap.size, 5, none⟩ (.string nm)).setCell ⟨w.heap.size, 6, none⟩ (.string s) = W6 := ⟨_, rfl⟩
      rw [hW6]
      have HX6 : Hid (W6.heap[w.heap.size]? = some (.cells #[.int .i64 k, .int .i64 0, .int .i64 0, .int .i64 0, .int .i64 n, .string nm, .string s, .slice FA FL fc, .int .i64 pos] 37)) := Lib.hid (by rw [← hW6]; exact blk_put (j := 6) (blk_put (j := 5) ((HC0.out.block w.heap.size hx5).trans HX5.out)))
      have HR6 : Hid (W6.heap[w.heap.size + 1]? = some (.cells #[.int .i64 0, .int .i64 0, .int .i64 0, .int .i64 0, .int .i64 0, .string ⟨#[]⟩, .string ⟨#[]⟩, .slice none 0 0, .int .i64 0] 37)) := Lib.hid (by rw [← hW6]; exact (set_far _ _ _ _ _ (by omega)).trans ((set_far _ _ _ _ _ (by omega)).trans ((HC0.out.block (w.heap.size + 1) hy5).trans HR5.out)))
      have HB6 : Hid (Below w.heap.size w W6) := Lib.hid (by rw [← hW6]; exact ((HB5.out.trans (HC0.out.mono HB5.out.size)).setCell (p := ⟨w.heap.size, 5, none⟩) (Nat.le_refl _) _).setCell (p := ⟨w.heap.size, 6, none⟩) (Nat.le_refl _) _)
      have hz6 : w.heap.size + 1 < W6.heap.size := (Array.getElem?_eq_some_iff.1 HR6.out).1
      obtain ⟨x0, x1, x2, x3, x4, x5, x6, x7, x8, xf⟩ := cells9 HX6.out
      clear hW6 b5 b6 f5 f6 d5 d6 g5 g6
      go_wp2_with (go_at_call 105; refine (HPL.out _ _ HB6.out (fun h => absurd h (by omega))).mono ?_; rintro e w7 ⟨A7, c7, rfl, hown7, hb7⟩; have HX7 := Lib.hid ((hb7.block w.heap.size (by omega)).trans HX6.out); have HR7 := Lib.hid ((hb7.block (w.heap.size + 1) hz6).trans HR6.out); obtain ⟨y0, y1, y2, y3, y4, y5, y6, y7, y8, yf⟩ := cells9 HX7.out; obtain ⟨r0, r1, r2, r3, r4, r5, r6, r7, r8, rf⟩ := cells9 HR7.out; have HO7 := Lib.hid hown7; have HB7 := Lib.hid (HB6.out.trans (hb7.mono (by omega))); clear hown7 hb7)
      exact bodyPost_ret (v := .agg #[.int .i64 k, .int .i64 0, .int .i64 0, .int .i64 0, .int .i64 n, .string nm, .string s, (.slice A7 rl.length c7), .int .i64 pos]) (res33 _ _ (w.heap.size + 1) _ _ _ _ _ _ _ _ _ (by simp) (store9 ((set_far _ _ _ _ _ (by omega)).trans HR7.out))) rfl ⟨A7, c7, rfl, row_mono (ownF_set9 (ownF_set HO7.out (by omega)) (by omega)) (by omega), (HB7.out.setCell (p := ⟨w.heap.size, 7, none⟩) (Nat.le_refl _) _).trans (grow9 (by omega))⟩
end Go.Proofs.YtjakeidbajkdcaaGreatDoor.T
