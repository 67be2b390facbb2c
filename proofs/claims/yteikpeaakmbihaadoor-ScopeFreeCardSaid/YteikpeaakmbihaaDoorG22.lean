/- Joined by program: PPlaces, PPlacesB, PWith, PWithA, RDepth. -/
import Derived.Test.YteikpeaakmbihaaDoorG20
import Derived.Test.YteikpeaakmbihaaDoorG19
import Derived.Deep.RegionLaw
/- withPlaces, the program's: a copy of a node's parts, at other places. -/
namespace Go.Proofs.YteikpeaakmbihaaDoor.T
open Go.RowKit
theorem clone_any (s : ByteArray) (h : s.size ≤ 281474976710656) (w : World) : Calls Tryd.prog 63 #[.string s] w fun e w' => e = .returned (.string s) ∧ Below w.heap.size w w' := by
  have HC := Lib.hid (Tryd.stringslite_Clone s w h)
  go_enter Tryd.func63, Tryd.ntmps63
  go_wp2_with (go_at_call 78; refine HC.out.mono ?_; rintro e w1 ⟨rfl, hb⟩)
  go_ret
  exact ⟨rfl, hb⟩
/-- Parts that are all zero. -/
def noFld : Fld := ⟨⟨#[]⟩, ⟨#[]⟩, 0⟩
theorem fmake_arr (n : Nat) (hn : n ≤ 1000000) (w : World) : Sem.run Tryd.prog (Instr.makeSlice 25 (.int .i64 (n : Int)) (.int .i64 (n : Int))) w = .ok (.slice (some ⟨w.heap.size, 0, none⟩) n n) (w.alloc (.cells (fCells (List.replicate n noFld)).toArray 75)) := by
  obtain ⟨i0, hi, hz0, hz1, hz2⟩ := info_parts fldInfo
  have h := run_make (P := Tryd.prog) w 25 75 i0 _ Tryd.underlying25 hi hz0 .i64 .i64 (n : Int) (n : Int) (by omega) (by omega) (by rw [hz2]; omega) (by omega)
  rw [h, hz1]
  have e : madeCells (Value.agg #[.string ⟨#[]⟩, .string ⟨#[]⟩, .int .i64 0]).cells (n * 3) = (fCells (List.replicate n noFld)).toArray := by
    apply Array.ext
    · simp [madeCells, fCells_len]
    · intro i h1 h2
      have hin : i < n * 3 := by simpa [fCells_len] using h2
      have hq : i / 3 < n := by omega
      have hrep : (List.replicate n noFld)[i / 3]? = some noFld := by simp [hq]
      obtain ⟨c0, c1, c2⟩ := fCells_at _ _ _ hrep
      have key : some (madeCells (Value.agg #[.string ⟨#[]⟩, .string ⟨#[]⟩, .int .i64 0]).cells (n * 3))[i] = (fCells (List.replicate n noFld))[i]? := by
        have hm : i % 3 < 3 := Nat.mod_lt _ (by omega)
        have hi' : i = i / 3 * 3 + i % 3 := by omega
        obtain ⟨r, hr⟩ : ∃ r, i % 3 = r := ⟨_, rfl⟩
        rw [hr] at hm hi'
        match r, hm with
        | 0, _ => rw [show (fCells (List.replicate n noFld))[i]? = (fCells (List.replicate n noFld))[i / 3 * 3]? by congr 1, c0]; simp [madeCells, Value.cells, hr, noFld]
        | 1, _ => rw [show (fCells (List.replicate n noFld))[i]? = (fCells (List.replicate n noFld))[i / 3 * 3 + 1]? by congr 1, c1]; simp [madeCells, Value.cells, hr, noFld]
        | 2, _ => rw [show (fCells (List.replicate n noFld))[i]? = (fCells (List.replicate n noFld))[i / 3 * 3 + 2]? by congr 1, c2]; simp [madeCells, Value.cells, hr, noFld]
      rw [List.getElem?_eq_getElem (by simpa using h2)] at key
      simpa using Option.some.inj key
  rw [Int.toNat_natCast, e]
theorem fCells_set (L : List Fld) (i : Nat) (f : Fld) (hi : i < L.length) : ((((fCells L).toArray.setIfInBounds (i * 3) (.string f.nm)).setIfInBounds (i * 3 + 1) (.string f.vr)).setIfInBounds (i * 3 + 2) (.int .i64 f.pl)) = (fCells (L.set i f)).toArray := by
  simp only [List.setIfInBounds_toArray]
  congr 1
  induction L generalizing i with
  | nil => simp at hi
  | cons g L ih =>
    cases i with
    | zero => simp [fCells]
    | succ i =>
      have e : ∀ (g : Fld) (L : List Fld), fCells (g :: L) = .string g.nm :: .string g.vr :: .int .i64 g.pl :: fCells L := fun g L => by simp [fCells]
      rw [e, List.set_cons_succ, e, ← ih i (by simpa using hi), show (i + 1) * 3 = i * 3 + 1 + 1 + 1 by omega, show i * 3 + 1 + 1 + 1 + 1 = i * 3 + 1 + 1 + 1 + 1 by rfl, show i * 3 + 1 + 1 + 1 + 2 = i * 3 + 2 + 1 + 1 + 1 by omega, show i * 3 + 1 + 1 + 1 + 1 = (i * 3 + 1) + 1 + 1 + 1 by omega]
      simp only [List.set_cons_succ]
theorem mod_eq {W : World} {g i : Nat} {L : List Fld} {f : Fld} (h : W.heap[g]? = some (.cells (fCells L).toArray 75)) (hi : i < L.length) :
    (((W.setCell ⟨g, i * 3, none⟩ (.string f.nm)).setCell ⟨g, i * 3 + 1, none⟩ (.string f.vr)).setCell ⟨g, i * 3 + 2, none⟩ (.int .i64 f.pl)).heap[g]? = some (.cells (fCells (L.set i f)).toArray 75) := by
  have h1 := blk_put (j := i * 3) (v := .string f.nm) h
  have h2 := blk_put (j := i * 3 + 1) (v := .string f.vr) h1
  have h3 := blk_put (j := i * 3 + 2) (v := .int .i64 f.pl) h2
  rw [h3, fCells_set L i f hi]
theorem fCells_pl (L : List Fld) (i : Nat) (f : Fld) (z : Int) (hf : L[i]? = some f) : (fCells L).set (i * 3 + 2) (.int .i64 z) = fCells (L.set i { f with pl := z }) := by
  have e : ∀ (g : Fld) (L : List Fld), fCells (g :: L) = .string g.nm :: .string g.vr :: .int .i64 g.pl :: fCells L := fun g L => by simp [fCells]
  induction L generalizing i with
  | nil => simp at hf
  | cons g L ih =>
    cases i with
    | zero =>
      simp at hf
      subst hf
      simp [fCells]
    | succ i =>
      rw [show (i + 1) * 3 + 2 = i * 3 + 2 + 1 + 1 + 1 by omega, e g L]
      simp only [List.set_cons_succ]
      rw [e, ← ih i (by simpa using hf)]
theorem pl_eq {W : World} {g i : Nat} {L : List Fld} {f : Fld} {z : Int} (h : W.heap[g]? = some (.cells (fCells L).toArray 75)) (hf : L[i]? = some f) :
    (W.setCell ⟨g, i * 3 + 2, none⟩ (.int .i64 z)).heap[g]? = some (.cells (fCells (L.set i { f with pl := z })).toArray 75) := by
  rw [blk_put h, List.setIfInBounds_toArray, fCells_pl L i f z hf]
/-- The parts that are done, zeros behind. -/
def FRow (l : List Fld) (ks : List Int) (i : Nat) (L : List Fld) : Prop := L = relab (l.take i) (ks.take i) ++ List.replicate (l.length - i) noFld
theorem relab_len (l : List Fld) (ks : List Int) (h : l.length = ks.length) : (relab l ks).length = l.length := by simp [relab, h]
theorem relab_snoc (l : List Fld) (ks : List Int) (h : l.length = ks.length) (f : Fld) (k : Int) : relab (l ++ [f]) (ks ++ [k]) = relab l ks ++ [{ f with pl := k }] := by
  unfold relab
  rw [List.zipWith_append h]; rfl
theorem FRow.at {l : List Fld} {ks : List Int} {i : Nat} {L : List Fld} (h : FRow l ks i L) (hl : l.length = ks.length) (hi : i < l.length) : L.length = l.length ∧ L[i]? = some noFld := by
  have h1 : (relab (l.take i) (ks.take i)).length = i := by rw [relab_len _ _ (by rw [List.length_take, List.length_take, hl]), List.length_take]; omega
  subst h
  refine ⟨by rw [List.length_append, h1, List.length_replicate]; omega, ?_⟩
  rw [List.getElem?_append_right (by omega), h1, Nat.sub_self, List.getElem?_replicate, if_pos (by omega)]
theorem FRow.step {l : List Fld} {ks : List Int} {i : Nat} {L : List Fld} (h : FRow l ks i L) (hl : l.length = ks.length) {f : Fld} {k : Int} (hf : l[i]? = some f) (hk : ks[i]? = some k) : FRow l ks (i + 1) (L.set i { f with pl := k }) := by
  have hi := lt_of_some hf
  have h1 : (relab (l.take i) (ks.take i)).length = i := by rw [relab_len _ _ (by rw [List.length_take, List.length_take, hl]), List.length_take]; omega
  unfold FRow
  subst h
  rw [take_snoc l i f hf, take_snoc ks i k hk, relab_snoc _ _ (by rw [List.length_take, List.length_take, hl]), List.set_append_right _ _ (by omega), h1, Nat.sub_self]
  rw [show l.length - i = (l.length - (i + 1)) + 1 by omega, List.replicate_succ, List.set_cons_zero, List.append_assoc]
  rfl
theorem FRow.fin {l : List Fld} {ks : List Int} {L : List Fld} (h : FRow l ks l.length L) (hl : l.length = ks.length) : L = relab l ks := by
  unfold FRow at h
  rw [Nat.sub_self, List.take_length, hl, List.take_length] at h
  simpa using h
theorem FRow.start (l : List Fld) (ks : List Int) : FRow l ks 0 (List.replicate l.length noFld) := by simp [FRow, relab]
def PlPost (l : List Fld) (w : World) (e : Ending) (w' : World) : Prop := ∃ A c, e = .returned (.slice A l.length c) ∧ OwnF w.heap.size w' (.slice A l.length c) l ∧ Below w.heap.size w w'
theorem ownF_nil (B : Nat) (W : World) : OwnF B W (.slice none 0 0) [] := World.ownsRow_nil _ _ _ _
theorem ownF_of {B g n : Nat} {W : World} {l : List Fld} (h : W.heap[g]? = some (.cells (fCells l).toArray 75)) (hB : B ≤ g) (hn : n = l.length) (hm : l.length ≤ maxLen) : OwnF B W (.slice (some ⟨g, 0, none⟩) n n) l := by
  subst hn
  exact ⟨by rw [fCells_len], .inr ⟨g, l.length, _, rfl, hB, h, Nat.le_refl _, hm, by simp [fCells_len], by exact List.take_of_length_le (by simp [fCells_len])⟩⟩
theorem places_no (k a b c n pos : Int) (nm s : ByteArray) (vl ks : Value) (HP : Hid (partsB k = false)) (w : World) :
    Calls Tryd.prog 72 #[.agg #[.int .i64 k, .int .i64 a, .int .i64 b, .int .i64 c, .int .i64 n, .string nm, .string s, vl, .int .i64 pos], ks] w (PlPost [] w) := by
  go_enter Tryd.func72, Tryd.ntmps72
  go_wp2_with (go_at_call 44; refine (hasParts_is HP.out _).mono ?_; rintro e w1 ⟨rfl, rfl⟩)
  go_ret
  exact ⟨none, 0, rfl, ownF_nil _ _, (Below.refl _ w).alloc (Nat.le_refl _) _⟩
set_option maxRecDepth 100000 in
set_option maxHeartbeats 4000000 in
theorem places_zero (k a b c n pos : Int) (nm s : ByteArray) (A : Option Addr) (cp : Nat) (ks : Value) (HP : Hid (partsB k = true)) (w : World) :
    Calls Tryd.prog 72 #[.agg #[.int .i64 k, .int .i64 a, .int .i64 b, .int .i64 c, .int .i64 n, .string nm, .string s, .slice A 0 cp, .int .i64 pos], ks] w (PlPost [] w) := by
  have hmk : ∀ w : World, Sem.run Tryd.prog (Instr.makeSlice 25 (.int .i64 0) (.int .i64 0)) w = .ok (.slice (some ⟨w.heap.size, 0, none⟩) 0 0) (w.alloc (.cells #[] 75)) := fun w => by kernel_rfl
  go_enter Tryd.func72, Tryd.ntmps72
  go_wp2_with (go_at_call 44; refine (hasParts_is HP.out _).mono ?_; rintro e w1 ⟨rfl, rfl⟩)
  go_loop [19] (fun i => i = .int .i64 0) (fun _ => 0)
  case atStart => exact rfl
  case round =>
    obtain rfl := hrel
    go_wp2
    go_ret
    exact ⟨some ⟨w.heap.size + 1, 0, none⟩, 0, rfl, ownF_of (l := []) (heap_new _ _ _ (by simp)) (by omega) rfl (by simp [maxLen]), ((Below.refl _ w).alloc (Nat.le_refl _) _).alloc (by simp) _⟩
end Go.Proofs.YteikpeaakmbihaaDoor.T
/- withPlaces, the program's, of some parts. -/
namespace Go.Proofs.YteikpeaakmbihaaDoor.T
open Go.RowKit
/-- Whole numbers from a place of a block on. -/
def Row1 (W : World) (g o : Nat) (U : List Int) : Prop := ∀ j z, U[j]? = some z → W.cell? ⟨g, o + j, none⟩ = some (.int .i64 z)
theorem Row1.below {B : Nat} {W W' : World} {g o : Nat} {U : List Int} (h : Row1 W g o U) (hb : Below B W W') (hg : g < B) : Row1 W' g o U := fun j z hz => (hb.cell (p := ⟨g, _, none⟩) hg).trans (h j z hz)
set_option maxRecDepth 100000 in
set_option maxHeartbeats 8000000 in
theorem places_pos (k a b c n pos : Int) (nm s : ByteArray) (l : List Fld) (L cp fb fo : Nat) (ks : List Int) (gk ko ck : Nat) (HP : Hid (partsB k = true)) (HL : Hid (l.length = L)) (HKL : Hid (ks.length = L)) (hL0 : 0 < L) (hL : L ≤ 1000000) (w : World) (hfb : fb < w.heap.size) (hgk : gk < w.heap.size) (HF : Hid (FldsAt w fb fo l)) (HR : Hid (Row1 w gk ko ks)) (HS : Hid (∀ f ∈ l, f.nm.size ≤ 281474976710656 ∧ f.vr.size ≤ 281474976710656)) :
    Calls Tryd.prog 72 #[.agg #[.int .i64 k, .int .i64 a, .int .i64 b, .int .i64 c, .int .i64 n, .string nm, .string s, .slice (some ⟨fb, fo, none⟩) L cp, .int .i64 pos], .slice (some ⟨gk, ko, none⟩) L ck] w (PlPost (relab l ks) w) := by
  have hmk := fmake_arr L hL
  obtain ⟨w1, hw1⟩ : ∃ w1, (w.alloc (.cells #[.int .i64 k, .int .i64 a, .int .i64 b, .int .i64 c, .int .i64 n, .string nm, .string s, .slice (some ⟨fb, fo, none⟩) L cp, .int .i64 pos] 27)).alloc (.cells (fCells (List.replicate L noFld)).toArray 75) = w1 := ⟨_, rfl⟩
  have hmk1 := hmk (w.alloc (.cells #[.int .i64 k, .int .i64 a, .int .i64 b, .int .i64 c, .int .i64 n, .string nm, .string s, .slice (some ⟨fb, fo, none⟩) L cp, .int .i64 pos] 27))
  rw [hw1, World.size_alloc] at hmk1
  have HG1 : Hid (w1.heap[w.heap.size + 1]? = some (.cells (fCells (List.replicate L noFld)).toArray 75)) := Lib.hid (by rw [← hw1]; exact heap_new _ _ _ (by simp))
  have HB1 : Hid (Below w.heap.size w w1) := Lib.hid (by rw [← hw1]; exact ((Below.refl _ w).alloc (Nat.le_refl _) _).alloc (by simp) _)
  have hc7 : w1.cell? ⟨w.heap.size, 7, none⟩ = some (.slice (some ⟨fb, fo, none⟩) L cp) := by
    rw [← hw1, cell_under1 _ _ _ _ (by simp)]
    exact new_cellsT' w 27 [.int .i64 k, .int .i64 a, .int .i64 b, .int .i64 c, .int .i64 n, .string nm, .string s, .slice (some ⟨fb, fo, none⟩) L cp, .int .i64 pos] 7 _ rfl
  clear hmk hw1
  go_enter Tryd.func72, Tryd.ntmps72
  go_wp2_with (go_at_call 44; refine (hasParts_is HP.out _).mono ?_; rintro e w1 ⟨rfl, rfl⟩)
  go_loopw [19] (fun v wr => ∃ (i : Nat) (LL : List Fld), v = .int .i64 (i : Int) ∧ i ≤ L ∧ Hid (wr.heap[w.heap.size + 1]? = some (.cells (fCells LL).toArray 75)) ∧ Hid (FRow l ks i LL) ∧ Hid (Below w.heap.size w wr)) (fun v _ => L - (intOf v).toNat)
  case atStart => exact ⟨0, _, rfl, Nat.zero_le _, HG1, Lib.hid (HL.out ▸ FRow.start l ks), HB1⟩
  case round =>
    obtain ⟨i, LL, rfl, hi, HG, HD, HB⟩ := hrel
    have hgs : w.heap.size + 1 < wr.heap.size := (Array.getElem?_eq_some_iff.1 HG.out).1
    by_cases hlt : i < L
    · obtain ⟨fd, hfd⟩ : ∃ fd, l[i]? = some fd := ⟨_, List.getElem?_eq_getElem (by rw [HL.out]; exact hlt)⟩
      obtain ⟨kk, hkk⟩ : ∃ kk, ks[i]? = some kk := ⟨_, List.getElem?_eq_getElem (by rw [HKL.out]; exact hlt)⟩
      obtain ⟨m0, m1, m2⟩ := (HF.out.below HB.out hfb) i fd hfd
      have HS1 := Lib.hid (HS.out fd (List.mem_of_getElem? hfd))
      have HX := Lib.hid hfd
      have HKK := Lib.hid hkk
      have HLL := Lib.hid (HD.out.at (by rw [HL.out, HKL.out]) (by rw [HL.out]; exact hlt))
      obtain ⟨z0, z1, z2⟩ := fCells_at LL i noFld HLL.out.2
      have g0 := (Blk_cell HG.out (i * 3)).trans (by rw [List.getElem?_toArray, z0])
      have g1 := (Blk_cell HG.out (i * 3 + 1)).trans (by rw [List.getElem?_toArray, z1])
      have g2 := (Blk_cell HG.out (i * 3 + 2)).trans (by rw [List.getElem?_toArray, z2])
      have f0 := Blk_frozen HG.out (i * 3)
      have f1 := Blk_frozen HG.out (i * 3 + 1)
      have f2 := Blk_frozen HG.out (i * 3 + 2)
      clear hfd hkk z0 z1 z2
      have hq0 : w.heap.size + 1 < wr.heap.size + 1 := by omega
      go_wp2_with fail
      have HC0 : Hid (Below (wr.alloc (.cells #[.string fd.nm, .string fd.vr, .int .i64 fd.pl] 75)).heap.size (wr.alloc (.cells #[.string fd.nm, .string fd.vr, .int .i64 fd.pl] 75)) (wr.alloc (.cells #[.string fd.nm, .string fd.vr, .int .i64 fd.pl] 75)).drew) := Lib.hid (Below.refl _ _).drew
      go_region_with (go_at_call 63; refine (clone_any _ (by first | exact HS1.out.1 | exact HS1.out.2) _).mono ?_; rintro e w2 ⟨rfl, hb2⟩; obtain ⟨hc, hf⟩ := bcellT hb2; have HC0 := Lib.hid (HC0.out.trans (hb2.mono HC0.out.size)); have hq := HC0.out.size; rw [World.size_alloc] at hq; have hqa : w.heap.size + 1 < w2.heap.size := (by omega); have hqb : wr.heap.size < w2.heap.size := (by omega); clear hb2 hq)
      all_goals
        have HG2 := Lib.hid ((HC0.out.block (w.heap.size + 1) (by rw [World.size_alloc]; omega)).trans (((Below.refl wr.heap.size wr).alloc (Nat.le_refl _) (.cells #[.string fd.nm, .string fd.vr, .int .i64 fd.pl] 75)).block (w.heap.size + 1) hgs |>.trans HG.out))
        have HG3 := Lib.hid (mod_eq (f := ⟨fd.nm, fd.vr, 0⟩) HG2.out (by rw [HLL.out.1, HL.out]; exact hlt))
        have HB2 := Lib.hid (((HB.out.alloc HB.out.size (.cells #[.string fd.nm, .string fd.vr, .int .i64 fd.pl] 75))).trans (HC0.out.mono (by rw [World.size_alloc]; have := HB.out.size; omega)))
        have HB3 := Lib.hid (((HB2.out.setCell (p := ⟨w.heap.size + 1, i * 3, none⟩) (by simp) (.string fd.nm)).setCell (p := ⟨w.heap.size + 1, i * 3 + 1, none⟩) (by simp) (.string fd.vr)).setCell (p := ⟨w.heap.size + 1, i * 3 + 2, none⟩) (by simp) (.int .i64 0))
        have hk3 := (HR.out.below HB3.out hgk) i kk HKK.out
        have HLS : Hid ((LL.set i ⟨fd.nm, fd.vr, 0⟩)[i]? = some ⟨fd.nm, fd.vr, 0⟩) := Lib.hid (by rw [List.getElem?_set_self (by rw [HLL.out.1, HL.out]; exact hlt)])
        have g5 := (Blk_cell HG3.out (i * 3 + 2)).trans (by rw [List.getElem?_toArray, (fCells_at _ _ _ HLS.out).2.2])
        have f5 := Blk_frozen HG3.out (i * 3 + 2)
        clear hc hf g0 g1 g2 f0 f1 f2 hqa hqb hq0
        go_wp2
        go_roundw
        case rel =>
          refine ⟨i + 1, LL.set i { fd with pl := kk }, by go_num, by omega, Lib.hid ?_, Lib.hid (HD.out.step (by rw [HL.out, HKL.out]) HX.out HKK.out), Lib.hid (HB3.out.setCell (p := ⟨w.heap.size + 1, i * 3 + 2, none⟩) (by simp) _)⟩
          have h := pl_eq (z := kk) HG3.out HLS.out
          rw [List.set_set] at h
          exact h
        case measure => simp [intOf]; omega
    · obtain rfl : i = L := by omega
      have HE := Lib.hid (FRow.fin (HL.out ▸ HD.out : FRow l ks l.length LL) (by rw [HL.out, HKL.out]))
      go_wp2
      go_ret
      have hlen : (relab l ks).length = i := by rw [relab_len l ks (by rw [HL.out, HKL.out]), HL.out]
      exact ⟨some ⟨w.heap.size + 1, 0, none⟩, i, by rw [hlen]; rfl, by rw [hlen]; exact ownF_of (HE.out ▸ HG.out) (by omega) hlen.symm (by unfold maxLen; omega), HB.out⟩
/-- withPlaces at whatever node; l: the places behind its own children. -/
theorem places_any (x : Nd) (a b c : Int) (vl : Value) (ks : List Int) (A : Option Addr) (ck : Nat) (w : World) (hv : Flds w.heap.size w vl x.l) (hL : x.l.length ≤ 1000000) (hS : ∀ f ∈ x.l, f.nm.size ≤ 281474976710656 ∧ f.vr.size ≤ 281474976710656) (hk : partsB x.kind = true → ks.length = x.l.length) (hA : 0 < ks.length → ∃ gk ko, A = some ⟨gk, ko, none⟩ ∧ gk < w.heap.size ∧ Row1 w gk ko ks) :
    Calls Tryd.prog 72 #[.agg (ndArr { x with a := a, b := b, c := c } vl), .slice A ks.length ck] w (PlPost (if many x = true then relab x.l ks else []) w) := by
  obtain ⟨k, a0, b0, c0, n, nm, s, l, pos⟩ := x
  simp only at hv hL hS hk
  obtain ⟨FA, cp, rfl, _, _, hq⟩ := hv
  have hm : many ⟨k, a0, b0, c0, n, nm, s, l, pos⟩ = partsB k := rfl
  rw [hm]
  cases hp : partsB k with
  | false =>
    rw [if_neg (by simp)]
    exact places_no k a b c n pos nm s _ _ (Lib.hid hp) w
  | true =>
    rw [if_pos rfl]
    have hk' := hk hp
    by_cases h0 : 0 < l.length
    · obtain ⟨fb, fo, rfl, hlt, hf⟩ := hq h0
      obtain ⟨gk, ko, rfl, hgk, hr⟩ := hA (by omega)
      have := places_pos k a b c n pos nm s l l.length cp fb fo ks gk ko ck (Lib.hid hp) (Lib.hid rfl) (Lib.hid hk') h0 hL w hlt hgk (Lib.hid hf) (Lib.hid hr) (Lib.hid hS)
      rw [hk']
      exact this
    · obtain rfl : l = [] := List.eq_nil_of_length_eq_zero (by omega)
      have e : relab [] ks = [] := by simp [relab]
      rw [e]
      exact places_zero k a b c n pos nm s FA cp _ (Lib.hid hp) w
end Go.Proofs.YteikpeaakmbihaaDoor.T
/- withKids, the program's: a copy of a node with other children. -/
namespace Go.Proofs.YteikpeaakmbihaaDoor.T
open Go.RowKit
/-- What withKids answers: these cells, but for the parts, which are the call's own. -/
def WPost (cs : Value → Array Value) (l : List Fld) (w : World) (e : Ending) (w' : World) : Prop := ∃ A c, e = .returned (.agg (cs (.slice A l.length c))) ∧ OwnF w.heap.size w' (.slice A l.length c) l ∧ Below w.heap.size w w'
theorem res33 (tmps : Array Value) (W : World) (p : Nat) (v0 v1 v2 v3 v4 v5 v6 v7 v8 : Value) (h2 : tmps[4]?.getD undef = .pointer (some ⟨p, 0, none⟩)) (hb : W.heap[p]? = some (.cells #[v0, v1, v2, v3, v4, v5, v6, v7, v8] 27 (0, 0))) :
    Sem.run Tryd.prog (results Tryd.f47 tmps) W = .ok (.agg #[v0, v1, v2, v3, v4, v5, v6, v7, v8]) W := by
  have c0 := Blk_cell hb 0
  have c1 := Blk_cell hb 1
  have c2 := Blk_cell hb 2
  have c3 := Blk_cell hb 3
  have c4 := Blk_cell hb 4
  have c5 := Blk_cell hb 5
  have c6 := Blk_cell hb 6
  have c7 := Blk_cell hb 7
  have c8 := Blk_cell hb 8
  simp [results, Tryd.results47, go_sem, h2, c0, c1, c2, c3, c4, c5, c6, c7, c8]
theorem set_far (W : World) (b j k : Nat) (v : Value) (h : k ≠ b) : (W.setCell ⟨b, j, none⟩ v).heap[k]? = W.heap[k]? := by
  show (W.heap.modify b _)[k]? = _
  rw [Array.getElem?_modify, if_neg (fun e => h e.symm)]
theorem cells9 {W : World} {b : Nat} {c0 c1 c2 c3 c4 c5 c6 c7 c8 : Value} (h : W.heap[b]? = some (.cells #[c0, c1, c2, c3, c4, c5, c6, c7, c8] 27 (0, 0))) :
    W.cell? ⟨b, 0, none⟩ = some c0 ∧ W.cell? ⟨b, 1, none⟩ = some c1 ∧ W.cell? ⟨b, 2, none⟩ = some c2 ∧ W.cell? ⟨b, 3, none⟩ = some c3 ∧ W.cell? ⟨b, 4, none⟩ = some c4 ∧ W.cell? ⟨b, 5, none⟩ = some c5 ∧ W.cell? ⟨b, 6, none⟩ = some c6 ∧ W.cell? ⟨b, 7, none⟩ = some c7 ∧ W.cell? ⟨b, 8, none⟩ = some c8 ∧ ∀ j, W.frozen? ⟨b, j, none⟩ = false :=
  ⟨(Blk_cell h 0).trans rfl, (Blk_cell h 1).trans rfl, (Blk_cell h 2).trans rfl, (Blk_cell h 3).trans rfl, (Blk_cell h 4).trans rfl, (Blk_cell h 5).trans rfl, (Blk_cell h 6).trans rfl, (Blk_cell h 7).trans rfl, (Blk_cell h 8).trans rfl, fun j => Blk_frozen h j⟩
theorem ownF_set {B b j : Nat} {W : World} {v u : Value} {l : List Fld} (h : OwnF B W v l) (hb : b < B) : OwnF B (W.setCell ⟨b, j, none⟩ u) v l :=
  World.ownsRow.kept h (grown_set W b j u) (by
    cases hv : v.ownBlock with
    | none => exact .inl rfl
    | some k =>
      refine .inr (fun e => ?_)
      have := (World.ownsRow.lt h k hv).1
      injection e with e
      omega)
theorem ownF_set9 {B b : Nat} {W : World} {v v0 v1 v2 v3 v4 v5 v6 v7 v8 : Value} {l : List Fld} (h : OwnF B W v l) (hb : b < B) :
    OwnF B (((((((((W.setCell ⟨b, 0, none⟩ v0).setCell ⟨b, 1, none⟩ v1).setCell ⟨b, 2, none⟩ v2).setCell ⟨b, 3, none⟩ v3).setCell ⟨b, 4, none⟩ v4).setCell ⟨b, 5, none⟩ v5).setCell ⟨b, 6, none⟩ v6).setCell ⟨b, 7, none⟩ v7).setCell ⟨b, 8, none⟩ v8) v l :=
  ownF_set (ownF_set (ownF_set (ownF_set (ownF_set (ownF_set (ownF_set (ownF_set (ownF_set h hb) hb) hb) hb) hb) hb) hb) hb) hb
/-- Nine cells stored into a block of nine. -/
theorem store9 {W : World} {b : Nat} {v0 v1 v2 v3 v4 v5 v6 v7 v8 c0 c1 c2 c3 c4 c5 c6 c7 c8 : Value} (h : W.heap[b]? = some (.cells #[c0, c1, c2, c3, c4, c5, c6, c7, c8] 27 (0, 0))) :
    (((((((((W.setCell ⟨b, 0, none⟩ v0).setCell ⟨b, 1, none⟩ v1).setCell ⟨b, 2, none⟩ v2).setCell ⟨b, 3, none⟩ v3).setCell ⟨b, 4, none⟩ v4).setCell ⟨b, 5, none⟩ v5).setCell ⟨b, 6, none⟩ v6).setCell ⟨b, 7, none⟩ v7).setCell ⟨b, 8, none⟩ v8).heap[b]? = some (.cells #[v0, v1, v2, v3, v4, v5, v6, v7, v8] 27 (0, 0)) := by
  have h2 := blk_put (j := 0) (v := v0) h
  have h3 := blk_put (j := 1) (v := v1) h2
  have h4 := blk_put (j := 2) (v := v2) h3
  have h5 := blk_put (j := 3) (v := v3) h4
  have h6 := blk_put (j := 4) (v := v4) h5
  have h7 := blk_put (j := 5) (v := v5) h6
  have h8 := blk_put (j := 6) (v := v6) h7
  have h9 := blk_put (j := 7) (v := v7) h8
  have h10 := blk_put (j := 8) (v := v8) h9
  rw [h10]
  simp
theorem grow9 {B : Nat} {W : World} {b : Nat} (hb : B ≤ b) {v0 v1 v2 v3 v4 v5 v6 v7 v8 : Value} :
    Below B W (((((((((W.setCell ⟨b, 0, none⟩ v0).setCell ⟨b, 1, none⟩ v1).setCell ⟨b, 2, none⟩ v2).setCell ⟨b, 3, none⟩ v3).setCell ⟨b, 4, none⟩ v4).setCell ⟨b, 5, none⟩ v5).setCell ⟨b, 6, none⟩ v6).setCell ⟨b, 7, none⟩ v7).setCell ⟨b, 8, none⟩ v8) :=
  (((((((((Below.refl B W).setCell (p := ⟨b, 0, none⟩) hb v0).setCell (p := ⟨b, 1, none⟩) hb v1).setCell (p := ⟨b, 2, none⟩) hb v2).setCell (p := ⟨b, 3, none⟩) hb v3).setCell (p := ⟨b, 4, none⟩) hb v4).setCell (p := ⟨b, 5, none⟩) hb v5).setCell (p := ⟨b, 6, none⟩) hb v6).setCell (p := ⟨b, 7, none⟩) hb v7).setCell (p := ⟨b, 8, none⟩) hb v8
end Go.Proofs.YteikpeaakmbihaaDoor.T
/- withKids, the program's, of a node with so many own children. -/
namespace Go.Proofs.YteikpeaakmbihaaDoor.T
open Go.RowKit
set_option maxRecDepth 100000 in
set_option maxHeartbeats 8000000 in
theorem wk_0 (k a b c n pos : Int) (nm s : ByteArray) (FA : Option Addr) (FL fc : Nat) (KL gk ck : Nat) (rl : List Fld) (HO : Hid (ownN k = 0)) (hKL : 0 ≤ KL) (hck : KL ≤ ck) (hS : nm.size ≤ 281474976710656 ∧ s.size ≤ 281474976710656) (w : World) (hgk : gk < w.heap.size) (HR : Hid (∀ (j : Nat) (z : Int), ([] : List Int)[j]? = some z → w.cell? ⟨gk, j, none⟩ = some (.int .i64 z)))
    (HPL : Hid (∀ (A : Option Addr) (w1 : World), Below w.heap.size w w1 → (0 < ck → A = some ⟨gk, 0, none⟩) → Calls Tryd.prog 72 #[.agg #[.int .i64 k, .int .i64 0, .int .i64 0, .int .i64 0, .int .i64 n, .string nm, .string s, .slice FA FL fc, .int .i64 pos], .slice A (KL - 0) (ck - 0)] w1 (PlPost rl w1))) :
    Calls Tryd.prog 47 #[.agg #[.int .i64 k, .int .i64 a, .int .i64 b, .int .i64 c, .int .i64 n, .string nm, .string s, .slice FA FL fc, .int .i64 pos], .slice (some ⟨gk, 0, none⟩) KL ck] w (WPost (fun v => #[.int .i64 k, .int .i64 0, .int .i64 0, .int .i64 0, .int .i64 n, .string nm, .string s, v, .int .i64 pos]) rl w) := by
  obtain ⟨w1, hw1⟩ : ∃ w1, ((w.alloc (.cells #[.int .i64 k, .int .i64 a, .int .i64 b, .int .i64 c, .int .i64 n, .string nm, .string s, .slice FA FL fc, .int .i64 pos] 27)).alloc (.cells #[.int .i64 0, .int .i64 0, .int .i64 0, .int .i64 0, .int .i64 0, .string ⟨#[]⟩, .string ⟨#[]⟩, .slice none 0 0, .int .i64 0] 27)).alloc (.cells #[.int .i64 0, .int .i64 0, .int .i64 0] 71) = w1 := ⟨_, rfl⟩
  have hs1 : w1.heap.size = w.heap.size + 3 := by rw [← hw1]; simp
  have hB1 : Below w.heap.size w w1 := by rw [← hw1]; exact below3 (Nat.le_refl _) _ _ _
  have hg1 : w1.heap[w.heap.size + 2]? = some (.cells #[.int .i64 0, .int .i64 0, .int .i64 0] 71) := by rw [← hw1]; exact heap_new _ _ _ (by simp)
  have hr1 : w1.heap[w.heap.size + 1]? = some (.cells #[.int .i64 0, .int .i64 0, .int .i64 0, .int .i64 0, .int .i64 0, .string ⟨#[]⟩, .string ⟨#[]⟩, .slice none 0 0, .int .i64 0] 27) := by
    rw [← hw1, ((Below.refl (w.heap.size + 2) ((w.alloc (.cells #[.int .i64 k, .int .i64 a, .int .i64 b, .int .i64 c, .int .i64 n, .string nm, .string s, .slice FA FL fc, .int .i64 pos] 27)).alloc (.cells #[.int .i64 0, .int .i64 0, .int .i64 0, .int .i64 0, .int .i64 0, .string ⟨#[]⟩, .string ⟨#[]⟩, .slice none 0 0, .int .i64 0] 27))).alloc (by simp) (.cells #[.int .i64 0, .int .i64 0, .int .i64 0] 71)).block _ (by omega)]
    exact heap_new _ _ _ (by simp)
  have hx1 : w1.heap[w.heap.size]? = some (.cells #[.int .i64 k, .int .i64 a, .int .i64 b, .int .i64 c, .int .i64 n, .string nm, .string s, .slice FA FL fc, .int .i64 pos] 27) := by
    rw [← hw1, ((Below.refl (w.heap.size + 2) ((w.alloc (.cells #[.int .i64 k, .int .i64 a, .int .i64 b, .int .i64 c, .int .i64 n, .string nm, .string s, .slice FA FL fc, .int .i64 pos] 27)).alloc (.cells #[.int .i64 0, .int .i64 0, .int .i64 0, .int .i64 0, .int .i64 0, .string ⟨#[]⟩, .string ⟨#[]⟩, .slice none 0 0, .int .i64 0] 27))).alloc (by simp) (.cells #[.int .i64 0, .int .i64 0, .int .i64 0] 71)).block _ (by omega), ((Below.refl (w.heap.size + 1) (w.alloc (.cells #[.int .i64 k, .int .i64 a, .int .i64 b, .int .i64 c, .int .i64 n, .string nm, .string s, .slice FA FL fc, .int .i64 pos] 27))).alloc (by simp) (.cells #[.int .i64 0, .int .i64 0, .int .i64 0, .int .i64 0, .int .i64 0, .string ⟨#[]⟩, .string ⟨#[]⟩, .slice none 0 0, .int .i64 0] 27)).block _ (by omega)]
    exact heap_new _ _ _ rfl
  obtain ⟨W4, hcp, hg4, hb4, hot⟩ := copy_at w1 (w.heap.size + 2) 0 3 ⟨gk, 0, none⟩ KL ck [.int .i64 0, .int .i64 0, .int .i64 0] (([] : List Int).map (Value.int .i64)) 71 hg1 (by show 0 = min KL 0; omega) (fun j v hv => by
    rw [List.getElem?_map, Option.map_eq_some_iff] at hv
    obtain ⟨z, hz, rfl⟩ := hv
    rw [Addr.add_lit, Nat.zero_add, hB1.cell (p := ⟨gk, j, none⟩) hgk]
    exact HR.out j z hz) (by simp) oneInt
  have hg4' : W4.heap[w.heap.size + 2]? = some (.cells #[.int .i64 0, .int .i64 0, .int .i64 0] 71) := by rw [hg4]; rfl
  have hr4 := (hot (w.heap.size + 1) (by omega)).trans hr1
  have hx4 := (hot w.heap.size (by omega)).trans hx1
  have HB4 := Lib.hid (hB1.trans (hb4.mono (by omega)))
  have HX4 := Lib.hid hx4
  have HR4 := Lib.hid hr4
  have hs4 := hb4.size
  rw [← hw1] at hcp
  have o0 := Blk_cell hg4' 0
  have o1 := Blk_cell hg4' 1
  have o2 := Blk_cell hg4' 2
  have b0 := Blk_cell hx4 0
  have f1 := Blk_frozen hx4 1
  have f2 := Blk_frozen hx4 2
  have f3 := Blk_frozen hx4 3
  have b1 := Blk_cell hx4 1
  have b2 := Blk_cell hx4 2
  have b3 := Blk_cell hx4 3
  simp only [List.getElem?_toArray, List.getElem?_cons_zero, List.getElem?_cons_succ] at o0 o1 o2 b0 b1 b2 b3
  clear hg1 hr1 hx1 hot hg4 hg4' hr4 hx4 hb4 hw1 hB1
  by_cases hcm : 0 < ck
  · go_enter Tryd.func47, Tryd.ntmps47
    go_wp2_with (go_at_call 43; refine (ownKids_is HO.out _).mono ?_; rintro e w1 ⟨rfl, rfl⟩)
    go_region
    obtain ⟨W5, hW5⟩ : ∃ W5, (((W4.setCell ⟨w.heap.size, 1, none⟩ (.int .i64 0)).setCell ⟨w.heap.size, 2, none⟩ (.int .i64 0)).setCell ⟨w.heap.size, 3, none⟩ (.int .i64 0)).drew = W5 := ⟨_, rfl⟩
    rw [hW5]
    have HX5 : Hid (W5.heap[w.heap.size]? = some (.cells #[.int .i64 k, .int .i64 0, .int .i64 0, .int .i64 0, .int .i64 n, .string nm, .string s, .slice FA FL fc, .int .i64 pos] 27)) := Lib.hid (by
      rw [← hW5]
      exact (blk_put (j := 3) (blk_put (j := 2) (blk_put (j := 1) HX4.out))))
    have HR5 : Hid (W5.heap[w.heap.size + 1]? = some (.cells #[.int .i64 0, .int .i64 0, .int .i64 0, .int .i64 0, .int .i64 0, .string ⟨#[]⟩, .string ⟨#[]⟩, .slice none 0 0, .int .i64 0] 27)) := Lib.hid (by
      rw [← hW5]
      exact (set_far _ _ _ _ _ (by omega)).trans ((set_far _ _ _ _ _ (by omega)).trans ((set_far _ _ _ _ _ (by omega)).trans HR4.out)))
    have HB5 : Hid (Below w.heap.size w W5) := Lib.hid (by
      rw [← hW5]
      exact (((HB4.out.setCell (p := ⟨w.heap.size, 1, none⟩) (Nat.le_refl _) _).setCell (p := ⟨w.heap.size, 2, none⟩) (Nat.le_refl _) _).setCell (p := ⟨w.heap.size, 3, none⟩) (Nat.le_refl _) _).drew)
    have b5 : W5.cell? ⟨w.heap.size, 5, none⟩ = some (.string nm) := (Blk_cell HX5.out 5).trans rfl
    have b6 : W5.cell? ⟨w.heap.size, 6, none⟩ = some (.string s) := (Blk_cell HX5.out 6).trans rfl
    have f5 := Blk_frozen HX5.out 5
    have f6 := Blk_frozen HX5.out 6
    have hx5 : w.heap.size < W5.heap.size := (Array.getElem?_eq_some_iff.1 HX5.out).1
    have hy5 : w.heap.size + 1 < W5.heap.size := (Array.getElem?_eq_some_iff.1 HR5.out).1
    clear hW5 o0 o1 o2 b0 b1 b2 b3 f1 f2 f3
    have HC0 : Hid (Below W5.heap.size W5 W5.drew) := Lib.hid (Below.refl _ _).drew
    go_wp2_with fail
    go_region_with (go_at_call 63; refine (clone_any _ (by first | exact hS.1 | exact hS.2) _).mono ?_; rintro e w2 ⟨rfl, hb2⟩; have HC0 := Lib.hid (HC0.out.trans (hb2.mono HC0.out.size)); have d5 := (HC0.out.cell (p := ⟨w.heap.size, 5, none⟩) hx5).trans b5; have d6 := (HC0.out.cell (p := ⟨w.heap.size, 6, none⟩) hx5).trans b6; have g5 := (HC0.out.frozen (p := ⟨w.heap.size, 5, none⟩) hx5).trans f5; have g6 := (HC0.out.frozen (p := ⟨w.heap.size, 6, none⟩) hx5).trans f6; clear hb2)
    all_goals
      obtain ⟨W6, hW6⟩ : ∃ W6, (w2.setCell ⟨w.heap.size, 5, none⟩ (.string nm)).setCell ⟨w.heap.size, 6, none⟩ (.string s) = W6 := ⟨_, rfl⟩
      rw [hW6]
      have HX6 : Hid (W6.heap[w.heap.size]? = some (.cells #[.int .i64 k, .int .i64 0, .int .i64 0, .int .i64 0, .int .i64 n, .string nm, .string s, .slice FA FL fc, .int .i64 pos] 27)) := Lib.hid (by rw [← hW6]; exact blk_put (j := 6) (blk_put (j := 5) ((HC0.out.block w.heap.size hx5).trans HX5.out)))
      have HR6 : Hid (W6.heap[w.heap.size + 1]? = some (.cells #[.int .i64 0, .int .i64 0, .int .i64 0, .int .i64 0, .int .i64 0, .string ⟨#[]⟩, .string ⟨#[]⟩, .slice none 0 0, .int .i64 0] 27)) := Lib.hid (by rw [← hW6]; exact (set_far _ _ _ _ _ (by omega)).trans ((set_far _ _ _ _ _ (by omega)).trans ((HC0.out.block (w.heap.size + 1) hy5).trans HR5.out)))
      have HB6 : Hid (Below w.heap.size w W6) := Lib.hid (by rw [← hW6]; exact ((HB5.out.trans (HC0.out.mono HB5.out.size)).setCell (p := ⟨w.heap.size, 5, none⟩) (Nat.le_refl _) _).setCell (p := ⟨w.heap.size, 6, none⟩) (Nat.le_refl _) _)
      have hz6 : w.heap.size + 1 < W6.heap.size := (Array.getElem?_eq_some_iff.1 HR6.out).1
      obtain ⟨x0, x1, x2, x3, x4, x5, x6, x7, x8, xf⟩ := cells9 HX6.out
      clear hW6 b5 b6 f5 f6 d5 d6 g5 g6
      go_wp2_with (go_at_call 72; refine (HPL.out _ _ HB6.out (fun _ => rfl)).mono ?_; rintro e w7 ⟨A7, c7, rfl, hown7, hb7⟩; have HX7 := Lib.hid ((hb7.block w.heap.size (by omega)).trans HX6.out); have HR7 := Lib.hid ((hb7.block (w.heap.size + 1) hz6).trans HR6.out); obtain ⟨y0, y1, y2, y3, y4, y5, y6, y7, y8, yf⟩ := cells9 HX7.out; obtain ⟨r0, r1, r2, r3, r4, r5, r6, r7, r8, rf⟩ := cells9 HR7.out; have HO7 := Lib.hid hown7; have HB7 := Lib.hid (HB6.out.trans (hb7.mono (by omega))); clear hown7 hb7)
      exact bodyPost_ret (v := .agg #[.int .i64 k, .int .i64 0, .int .i64 0, .int .i64 0, .int .i64 n, .string nm, .string s, (.slice A7 rl.length c7), .int .i64 pos]) (res33 _ _ (w.heap.size + 1) _ _ _ _ _ _ _ _ _ (by simp) (store9 ((set_far _ _ _ _ _ (by omega)).trans HR7.out))) rfl ⟨A7, c7, rfl, row_mono (ownF_set9 (ownF_set HO7.out (by omega)) (by omega)) (by omega), (HB7.out.setCell (p := ⟨w.heap.size, 7, none⟩) (Nat.le_refl _) _).trans (grow9 (by omega))⟩
  · (obtain rfl : ck = 0 := by omega)
    obtain rfl : KL = 0 := by omega
    go_enter Tryd.func47, Tryd.ntmps47
    go_wp2_with (go_at_call 43; refine (ownKids_is HO.out _).mono ?_; rintro e w1 ⟨rfl, rfl⟩)
    go_region
    obtain ⟨W5, hW5⟩ : ∃ W5, (((W4.setCell ⟨w.heap.size, 1, none⟩ (.int .i64 0)).setCell ⟨w.heap.size, 2, none⟩ (.int .i64 0)).setCell ⟨w.heap.size, 3, none⟩ (.int .i64 0)).drew = W5 := ⟨_, rfl⟩
    rw [hW5]
    have HX5 : Hid (W5.heap[w.heap.size]? = some (.cells #[.int .i64 k, .int .i64 0, .int .i64 0, .int .i64 0, .int .i64 n, .string nm, .string s, .slice FA FL fc, .int .i64 pos] 27)) := Lib.hid (by
      rw [← hW5]
      exact (blk_put (j := 3) (blk_put (j := 2) (blk_put (j := 1) HX4.out))))
    have HR5 : Hid (W5.heap[w.heap.size + 1]? = some (.cells #[.int .i64 0, .int .i64 0, .int .i64 0, .int .i64 0, .int .i64 0, .string ⟨#[]⟩, .string ⟨#[]⟩, .slice none 0 0, .int .i64 0] 27)) := Lib.hid (by
      rw [← hW5]
      exact (set_far _ _ _ _ _ (by omega)).trans ((set_far _ _ _ _ _ (by omega)).trans ((set_far _ _ _ _ _ (by omega)).trans HR4.out)))
    have HB5 : Hid (Below w.heap.size w W5) := Lib.hid (by
      rw [← hW5]
      exact (((HB4.out.setCell (p := ⟨w.heap.size, 1, none⟩) (Nat.le_refl _) _).setCell (p := ⟨w.heap.size, 2, none⟩) (Nat.le_refl _) _).setCell (p := ⟨w.heap.size, 3, none⟩) (Nat.le_refl _) _).drew)
    have b5 : W5.cell? ⟨w.heap.size, 5, none⟩ = some (.string nm) := (Blk_cell HX5.out 5).trans rfl
    have b6 : W5.cell? ⟨w.heap.size, 6, none⟩ = some (.string s) := (Blk_cell HX5.out 6).trans rfl
    have f5 := Blk_frozen HX5.out 5
    have f6 := Blk_frozen HX5.out 6
    have hx5 : w.heap.size < W5.heap.size := (Array.getElem?_eq_some_iff.1 HX5.out).1
    have hy5 : w.heap.size + 1 < W5.heap.size := (Array.getElem?_eq_some_iff.1 HR5.out).1
    clear hW5 o0 o1 o2 b0 b1 b2 b3 f1 f2 f3
    have HC0 : Hid (Below W5.heap.size W5 W5.drew) := Lib.hid (Below.refl _ _).drew
    go_wp2_with fail
    go_region_with (go_at_call 63; refine (clone_any _ (by first | exact hS.1 | exact hS.2) _).mono ?_; rintro e w2 ⟨rfl, hb2⟩; have HC0 := Lib.hid (HC0.out.trans (hb2.mono HC0.out.size)); have d5 := (HC0.out.cell (p := ⟨w.heap.size, 5, none⟩) hx5).trans b5; have d6 := (HC0.out.cell (p := ⟨w.heap.size, 6, none⟩) hx5).trans b6; have g5 := (HC0.out.frozen (p := ⟨w.heap.size, 5, none⟩) hx5).trans f5; have g6 := (HC0.out.frozen (p := ⟨w.heap.size, 6, none⟩) hx5).trans f6; clear hb2)
    all_goals
      obtain ⟨W6, hW6⟩ : ∃ W6, (w2.setCell ⟨w.heap.size, 5, none⟩ (.string nm)).setCell ⟨w.heap.size, 6, none⟩ (.string s) = W6 := ⟨_, rfl⟩
      rw [hW6]
      have HX6 : Hid (W6.heap[w.heap.size]? = some (.cells #[.int .i64 k, .int .i64 0, .int .i64 0, .int .i64 0, .int .i64 n, .string nm, .string s, .slice FA FL fc, .int .i64 pos] 27)) := Lib.hid (by rw [← hW6]; exact blk_put (j := 6) (blk_put (j := 5) ((HC0.out.block w.heap.size hx5).trans HX5.out)))
      have HR6 : Hid (W6.heap[w.heap.size + 1]? = some (.cells #[.int .i64 0, .int .i64 0, .int .i64 0, .int .i64 0, .int .i64 0, .string ⟨#[]⟩, .string ⟨#[]⟩, .slice none 0 0, .int .i64 0] 27)) := Lib.hid (by rw [← hW6]; exact (set_far _ _ _ _ _ (by omega)).trans ((set_far _ _ _ _ _ (by omega)).trans ((HC0.out.block (w.heap.size + 1) hy5).trans HR5.out)))
      have HB6 : Hid (Below w.heap.size w W6) := Lib.hid (by rw [← hW6]; exact ((HB5.out.trans (HC0.out.mono HB5.out.size)).setCell (p := ⟨w.heap.size, 5, none⟩) (Nat.le_refl _) _).setCell (p := ⟨w.heap.size, 6, none⟩) (Nat.le_refl _) _)
      have hz6 : w.heap.size + 1 < W6.heap.size := (Array.getElem?_eq_some_iff.1 HR6.out).1
      obtain ⟨x0, x1, x2, x3, x4, x5, x6, x7, x8, xf⟩ := cells9 HX6.out
      clear hW6 b5 b6 f5 f6 d5 d6 g5 g6
      go_wp2_with (go_at_call 72; refine (HPL.out _ _ HB6.out (fun h => absurd h (by omega))).mono ?_; rintro e w7 ⟨A7, c7, rfl, hown7, hb7⟩; have HX7 := Lib.hid ((hb7.block w.heap.size (by omega)).trans HX6.out); have HR7 := Lib.hid ((hb7.block (w.heap.size + 1) hz6).trans HR6.out); obtain ⟨y0, y1, y2, y3, y4, y5, y6, y7, y8, yf⟩ := cells9 HX7.out; obtain ⟨r0, r1, r2, r3, r4, r5, r6, r7, r8, rf⟩ := cells9 HR7.out; have HO7 := Lib.hid hown7; have HB7 := Lib.hid (HB6.out.trans (hb7.mono (by omega))); clear hown7 hb7)
      exact bodyPost_ret (v := .agg #[.int .i64 k, .int .i64 0, .int .i64 0, .int .i64 0, .int .i64 n, .string nm, .string s, (.slice A7 rl.length c7), .int .i64 pos]) (res33 _ _ (w.heap.size + 1) _ _ _ _ _ _ _ _ _ (by simp) (store9 ((set_far _ _ _ _ _ (by omega)).trans HR7.out))) rfl ⟨A7, c7, rfl, row_mono (ownF_set9 (ownF_set HO7.out (by omega)) (by omega)) (by omega), (HB7.out.setCell (p := ⟨w.heap.size, 7, none⟩) (Nat.le_refl _) _).trans (grow9 (by omega))⟩
end Go.Proofs.YteikpeaakmbihaaDoor.T
/- Depth, the document's: by recursion over a node's place; SameInts. -/
namespace Go.Proofs.YteikpeaakmbihaaDoor.T
open Go.RowKit
theorem kids_len' (x : Nd) : (kids x).length ≤ 3 + x.l.length := by
  rw [kids, List.length_append, kids_own]
  have h1 : ([x.a, x.b, x.c].take (ownN x.kind)).length ≤ 3 := by rw [List.length_take]; simp; omega
  split
  · rw [List.length_map]; omega
  · simp only [List.length_nil]; omega
set_option maxRecDepth 100000 in
set_option maxHeartbeats 8000000 in
theorem rdepth_any (l : List Nd) (L c b o : Nat) (HL : Hid (l.length = L)) (hL : L ≤ 100000) (hko : Hid (kidsOk l)) (HLL : Hid (∀ x ∈ l, x.l.length ≤ 1000000)) :
    ∀ i, i < L → ∀ (w : World), b < w.heap.size → NdsAt w.heap.size w b o l → Calls Tryd.prog 12 #[.agg #[.slice (some ⟨b, o, none⟩) L c], .int .i64 (i : Int)] w fun e w' => e = .returned (.int .i64 (((deeps l).getD i 0 : Nat) : Int)) ∧ Below w.heap.size w w' := by
  intro i
  induction i using Nat.strongRecOn with
  | ind i ih =>
    intro hi w hb hN
    have HN := Lib.hid hN
    have HIH := Lib.hid ih
    clear ih hN
    obtain ⟨x, hx⟩ : ∃ x, l[i]? = some x := ⟨_, List.getElem?_eq_getElem (by rw [HL.out]; exact hi)⟩
    have ha := hko.out i x hx
    have HMX : Hid ((deeps l).getD i 0 = mx l (kids x) + 1) := Lib.hid (deeps_mx hx ha)
    obtain ⟨fv, hfl, m0, m1, m2, m3, m4, m5, m6, m7, m8⟩ := HN.out i x hx
    have HFL := Lib.hid hfl
    obtain ⟨FA, fc, rfl, _⟩ := hfl
    have HKD : Hid (∀ w1, Below w.heap.size w w1 → Calls Tryd.prog 17 #[.agg (ndArr x (.slice FA x.l.length fc))] w1 (KidsPost (kids x) w1.heap.size w1)) := Lib.hid fun w1 hb1 => kids_any x _ w1 (Nat.le_refl _) ((HFL.out.below hb1).mono hb1.size) (HLL.out x (List.mem_of_getElem? hx))
    have hkl : (kids x).length ≤ 1000003 := by have := kids_len' x; have := HLL.out x (List.mem_of_getElem? hx); omega
    obtain ⟨K, hK⟩ : ∃ K, kids x = K := ⟨_, rfl⟩
    rw [hK] at HKD HMX hkl
    have HAH : Hid (∀ m ∈ K, 0 ≤ m ∧ m < (i : Int)) := Lib.hid (by rw [← hK]; exact ha)
    clear hx ha hK
    obtain ⟨w1, hw1⟩ : ∃ w1, w.alloc (.cells #[.slice (some ⟨b, o, none⟩) L c] 24) = w1 := ⟨_, rfl⟩
    have hs1 : w1.heap.size = w.heap.size + 1 := by rw [← hw1, World.size_alloc]
    have hcb : w1.cell? ⟨w.heap.size, 0, none⟩ = some (.slice (some ⟨b, o, none⟩) L c) := by rw [← hw1]; exact new_cellsT' w 24 [.slice (some ⟨b, o, none⟩) L c] 0 _ rfl
    have HB1 : Hid (Below w.heap.size w w1) := Lib.hid (by rw [← hw1]; exact (Below.refl _ w).alloc (Nat.le_refl _) _)
    have HKW := Lib.hid (HKD.out w1 HB1.out)
    rw [← hw1] at HKW hcb HB1
    have HCB := Lib.hid hcb
    clear hw1 hs1 HKD hcb
    go_enter Tryd.func12, Tryd.ntmps12
    go_wp2_with (go_at_call 17; refine HKW.out.mono ?_; rintro e w5 ⟨gk, ck, rfl, hi5, hb5⟩; have HI5 := Lib.hid hi5; have HB5 := Lib.hid hb5; clear hi5 hb5)
    have hgk := HI5.out.lt gk rfl
    rw [World.size_alloc] at hgk
    have HR5 := Lib.hid (ints_cells HI5.out)
    have HB05 := Lib.hid (HB1.out.trans (HB5.out.mono (by simp)))
    have HC5 : Hid (w5.cell? ⟨w.heap.size, 0, none⟩ = some (.slice (some ⟨b, o, none⟩) L c)) := Lib.hid ((HB5.out.cell (p := ⟨w.heap.size, 0, none⟩) (by simp)).trans HCB.out)
    clear m0 m1 m2 m3 m4 m5 m6 m7 m8
    have hbd : ∀ j, mx l (K.take j) ≤ i := fun j => mx_le hko.out (by rw [HL.out]; exact hi) _ (fun k hk => HAH.out k (List.mem_of_mem_take hk))
    have HBD := Lib.hid hbd
    clear hbd
    go_loopw [5, 7] (fun dv v wr => ∃ j d : Nat, dv = .int .i64 (d : Int) ∧ v = .int .i64 (j : Int) ∧ j ≤ K.length ∧ d ≤ i ∧ Hid (d = mx l (K.take j)) ∧ Hid (Below w5.heap.size w5 wr)) (fun _ v _ => K.length - (intOf v).toNat)
    case atStart => exact ⟨0, 0, rfl, rfl, Nat.zero_le _, Nat.zero_le _, Lib.hid rfl, Lib.hid (Below.refl _ _)⟩
    case round =>
      obtain ⟨j, d, rfl, rfl, hj, hdi, HDM, HB⟩ := hrel
      have hs5 := HB5.out.size
      rw [World.size_alloc] at hs5
      by_cases hlt : j < K.length
      · obtain ⟨k, hk⟩ : ∃ k, K[j]? = some k := ⟨_, List.getElem?_eq_getElem hlt⟩
        have hck := (HB.out.cell (p := ⟨gk, j, none⟩) (by show gk < w5.heap.size; omega)).trans (HR5.out j k hk)
        have hcb := (HB.out.cell (p := ⟨w.heap.size, 0, none⟩) (by show w.heap.size < w5.heap.size; omega)).trans HC5.out
        obtain ⟨h0, h1⟩ := HAH.out k (List.mem_of_getElem? hk)
        obtain ⟨q, rfl⟩ := Int.eq_ofNat_of_zero_le h0
        obtain ⟨dq, hdq⟩ : ∃ dq, (deeps l).getD q 0 = dq := ⟨_, rfl⟩
        have HNX : Hid (mx l (K.take (j + 1)) = max d dq) := Lib.hid (by rw [take_snoc K j _ hk, mx_snoc, ← HDM.out, Int.toNat_natCast, hdq])
        have HREC : Hid (∀ w2, Below w5.heap.size w5 w2 → Calls Tryd.prog 12 #[.agg #[.slice (some ⟨b, o, none⟩) L c], .int .i64 (q : Int)] w2 fun e w' => e = .returned (.int .i64 (dq : Int)) ∧ Below w2.heap.size w2 w') := Lib.hid fun w2 h2 => by
          have hb2 := HB05.out.trans (h2.mono (by have := HB05.out.size; omega))
          have := HIH.out q (by omega) (by omega) w2 (Nat.lt_of_lt_of_le hb hb2.size) ((HN.out.below hb2 hb).mono hb2.size)
          rw [hdq] at this
          exact this
        have hmaxb : max d dq ≤ i := by have := HBD.out (j + 1); rw [HNX.out] at this; exact this
        have HKK := Lib.hid hk
        clear hk hdq
        go_wp2_with fail
        go_region_with (go_at_call 12; refine (HREC.out _ HB.out.drew).mono ?_; rintro e w6 ⟨rfl, hb6⟩; have HB6 := Lib.hid hb6; clear hb6)
        all_goals
          go_wp2
          go_roundw
          case rel => exact ⟨j + 1, max d dq, congrArg (Value.int .i64) (by omega), by go_num, by omega, hmaxb, Lib.hid HNX.out.symm, Lib.hid (HB.out.drew.trans (HB6.out.mono HB.out.drew.size))⟩
          case measure => simp [intOf]; omega
      · obtain rfl : j = K.length := by omega
        have HE : Hid ((deeps l).getD i 0 = d + 1) := Lib.hid (by rw [HMX.out, HDM.out, List.take_length])
        go_wp2
        go_ret
        exact ⟨ret_i (by rw [HE.out]; omega), HB05.out.trans (HB.out.mono HB05.out.size)⟩
end Go.Proofs.YteikpeaakmbihaaDoor.T
