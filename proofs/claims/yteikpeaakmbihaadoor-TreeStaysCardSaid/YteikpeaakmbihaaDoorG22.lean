/- Joined by program: PDepth, PPlaces, PPlacesB, PWith. -/
import Derived.Test.YteikpeaakmbihaaDoorG21
import Derived.Deep.RegionLaw
/- depth, May, Depth, the program's. -/
namespace Go.Proofs.YteikpeaakmbihaaDoor.T
open Go.RowKit
set_option maxRecDepth 100000 in
theorem depth_full (A : Option Addr) (L c : Nat) (h : L < 1 ∨ 600 < L) (hL : L ≤ 9223372036854775807) (w : World) : Calls Tryd.prog 42 #[.agg #[.slice A L c]] w (DPost 0 8 w) := by
  by_cases h0 : L = 0
  · subst h0
    go_enter Tryd.func42, Tryd.ntmps42
    go_wp2
    go_ret2
    exact ⟨rfl, (Below.refl _ w).alloc (Nat.le_refl _) _⟩
  · have h1 : ((L : Int) == 0) = false := by simpa using h0
    have h2 : decide ((600 : Int) < (L : Int)) = true := by simp; omega
    have h3 : (600 : Int) < (L : Int) := by omega
    go_enter Tryd.func42, Tryd.ntmps42
    go_wp2
    go_ret2
    exact ⟨rfl, (Below.refl _ w).alloc (Nat.le_refl _) _⟩
theorem rep_arr (n : Nat) : Array.replicate n (Value.int .i64 0) = ((List.replicate n (0 : Int)).map (Value.int .i64)).toArray := by simp
theorem make_arr (n : Nat) (hn : n ≤ 1000000) (w : World) : Sem.run Tryd.prog (Instr.makeSlice 34 (.int .i64 (n : Int)) (.int .i64 (n : Int))) w = .ok (.slice (some ⟨w.heap.size, 0, none⟩) n n) (w.alloc (.cells (Array.replicate n (Value.int .i64 0)) 3)) := by rw [rep_arr]; exact make_ints n hn w
/-- The depths of those that are done, zeros behind. -/
def ORow (l : List Nd) (i : Nat) (D : List Int) : Prop := D.length = l.length ∧ (∀ k : Nat, k < i → D[k]? = some (((deeps l).getD k 0 : Nat) : Int)) ∧ ∀ k : Nat, i ≤ k → k < l.length → D[k]? = some 0
theorem ORow.start (l : List Nd) (L : Nat) (h : l.length = L) : ORow l 0 (List.replicate L 0) := by
  subst h
  exact ⟨by simp, fun k hk => absurd hk (by omega), fun k _ hk => by simp [hk]⟩
theorem ORow.row {l : List Nd} {i : Nat} {D : List Int} (h : ORow l i D) (hi : i < l.length) : DRow l i 0 D := ⟨h.1, h.2.1, h.2.2 i (Nat.le_refl _) hi, fun k hk hl => h.2.2 k (by omega) hl⟩
theorem DRow.out {l : List Nd} {i d : Nat} {D : List Int} (h : DRow l i d D) (hd : (deeps l).getD i 0 = d) : ORow l (i + 1) D := by
  obtain ⟨h1, h2, h3, h4⟩ := h
  refine ⟨h1, fun k hk => ?_, fun k hk hl => h4 k (by omega) hl⟩
  by_cases e : k = i
  · subst e; rw [hd]; exact h3
  · exact h2 k (by omega)
theorem DRow.start {l : List Nd} (h : 0 < l.length) : DRow l 0 0 (List.replicate l.length 0) := ⟨by simp, fun k hk => absurd hk (by omega), by simp [h], fun k _ hk => by simp [hk]⟩
theorem Row0.drew {W : World} {g : Nat} {U : List Int} (h : Row0 W g U) : Row0 W.drew g U := fun j z hz => by rw [World.cell?_drew]; exact h j z hz
set_option maxRecDepth 100000 in
set_option maxHeartbeats 8000000 in
theorem depth_any (l : List Nd) (L c b o : Nat) (HL : Hid (l.length = L)) (hL0 : 0 < L) (hL : L ≤ 600) (w : World) (hK : Kws w.heap.size w) (hb : b < w.heap.size) (HN : Hid (NdsAt w.heap.size w b o l)) (HS : Hid (∀ x ∈ l, Small x)) :
    Calls Tryd.prog 42 #[.agg #[.slice (some ⟨b, o, none⟩) L c]] w (DPost (deepOf l) (may l) w) := by
  have h1 : ((L : Int) == 0) = false := by simpa using (by omega : ¬ L = 0)
  have h2 : decide ((600 : Int) < (L : Int)) = false := by simp; omega
  have hnf : ¬ (l.length < 1 ∨ 600 < l.length) := by rw [HL.out]; omega
  have hbx : (w.alloc (.cells #[.slice (some ⟨b, o, none⟩) L c] 24)).cell? ⟨w.heap.size, 0, none⟩ = some (.slice (some ⟨b, o, none⟩) L c) := new_cellsT' w 24 [.slice (some ⟨b, o, none⟩) L c] 0 _ rfl
  have HFM : Hid (Calls Tryd.prog 69 #[.agg #[.slice (some ⟨b, o, none⟩) L c]] (w.alloc (.cells #[.slice (some ⟨b, o, none⟩) L c] 24)) (FormPost l (w.alloc (.cells #[.slice (some ⟨b, o, none⟩) L c] 24)))) := Lib.hid (by
    have hb1 := (Below.refl w.heap.size w).alloc (Nat.le_refl _) (.cells #[.slice (some ⟨b, o, none⟩) L c] 24)
    exact form_any l L c b o HL hL0 (by omega) _ (Kws_mono (hK.on hb1) (by simp)) (by simp; omega) (Lib.hid ((HN.out.below hb1 hb).mono (by simp))) HS)
  have HBX := Lib.hid hbx
  unfold FormPost at HFM
  by_cases hf : formed l
  · have HF := Lib.hid hf
    have hmk := make_arr L (by omega)
    clear hf hbx hK
    go_enter Tryd.func42, Tryd.ntmps42
    go_wp2_with (go_at_call 69; refine HFM.out.mono ?_; rintro e w1 ⟨fb, rfl, hiff, hb1⟩; obtain rfl : fb = true := hiff.2 HF.out; have c1 := (hb1.cell (p := ⟨w.heap.size, 0, none⟩) (by simp)).trans HBX.out; have HB1 := Lib.hid (((Below.refl _ w).alloc (Nat.le_refl _) _).trans (hb1.mono (by simp))); have hs1 := hb1.size; rw [World.size_alloc] at hs1; have c2 := (cell_under1 w1 (.cells (Array.replicate L (Value.int .i64 0)) 3) w.heap.size 0 (by omega)).trans c1; clear hiff hb1)
    have HG1 : Hid ((w1.alloc (.cells (Array.replicate L (Value.int .i64 0)) 3)).heap[w1.heap.size]? = some (.cells ((List.replicate L (0 : Int)).map (Value.int .i64)).toArray 3)) := Lib.hid (by rw [← rep_arr]; exact heap_alloc_new w1 _)
    have HKO : Hid (kidsOk l) := Lib.hid HF.out.2.1
    go_loopw [30] (fun v wr => ∃ (i : Nat) (D : List Int), v = .int .i64 (i : Int) ∧ i ≤ L ∧ Hid (wr.heap[w1.heap.size]? = some (.cells (D.map (Value.int .i64)).toArray 3)) ∧ Hid (ORow l i D) ∧ Hid (Below w1.heap.size w1 wr)) (fun v _ => L - (intOf v).toNat)
    case atStart => exact ⟨0, List.replicate L 0, rfl, Nat.zero_le _, HG1, Lib.hid (ORow.start l L HL.out), Lib.hid ((Below.refl _ w1).alloc (Nat.le_refl _) _)⟩
    case round =>
      obtain ⟨i, D, rfl, hi, HG, HD, HB2⟩ := hrel
      have HB : Hid (Below w.heap.size w wr) := Lib.hid (HB1.out.trans (HB2.out.mono (by omega)))
      have hgs : w1.heap.size < wr.heap.size := (Array.getElem?_eq_some_iff.1 HG.out).1
      by_cases hlt : i < L
      · obtain ⟨x, hx⟩ : ∃ x, l[i]? = some x := ⟨_, List.getElem?_eq_getElem (by rw [HL.out]; exact hlt)⟩
        obtain ⟨fv, hfl, m0, m1, m2, m3, m4, m5, m6, m7, m8⟩ := (HN.out.below HB.out hb) i x hx
        have HFL : Hid (Flds wr.heap.size wr fv x.l) := Lib.hid (hfl.mono HB.out.size)
        obtain ⟨FA, fc, rfl, _⟩ := hfl
        have HX := Lib.hid hx
        have HKD : Hid (∀ w1, Below wr.heap.size wr w1 → Calls Tryd.prog 16 #[.agg (ndArr x (.slice FA x.l.length fc))] w1 (KidsPost (kids x) w1.heap.size w1)) := Lib.hid fun w1 hb1 => pkids_any x _ w1 (Nat.le_refl _) ((HFL.out.below hb1).mono hb1.size) (HS.out x (List.mem_of_getElem? HX.out)).2.2.1
        obtain ⟨K, hK⟩ : ∃ K, kids x = K := ⟨_, rfl⟩
        rw [hK] at HKD
        have HKX := Lib.hid hK
        clear hx hK
        go_wp2_with (go_at_call 16; refine (HKD.out _ ((Below.refl _ wr).alloc (Nat.le_refl _) _)).mono ?_; rintro e w5 ⟨gk, ck, rfl, hi5, hb5⟩; have HI5 := Lib.hid hi5; have HB5 := Lib.hid (((Below.refl _ wr).alloc (Nat.le_refl _) _).trans (hb5.mono (by simp))); have hgk := (hi5.lt gk rfl); rw [World.size_alloc] at hgk; clear hi5 hb5)
        have hkl : K.length ≤ 1000003 := by rw [← HKX.out]; have := kids_len x; have := (HS.out x (List.mem_of_getElem? HX.out)).2.2.1; omega
        have HG5 : Hid (w5.heap[w1.heap.size]? = some (.cells (D.map (Value.int .i64)).toArray 3)) := Lib.hid ((HB5.out.block _ hgs).trans HG.out)
        have HR5 : Hid (Row0 w5 gk K) := Lib.hid (ints_cells HI5.out)
        have HAH : Hid (∀ m ∈ K, 0 ≤ m ∧ m < (i : Int)) := Lib.hid (by rw [← HKX.out]; exact HKO.out i x HX.out)
        have HMX : Hid ((deeps l).getD i 0 = mx l K + 1) := Lib.hid (by rw [← HKX.out]; exact deeps_mx HX.out (HKO.out i x HX.out))
        have hmx : mx l K ≤ i := mx_le HKO.out (by rw [HL.out]; exact hlt) K HAH.out
        go_loopw [38] (fun v w6 => ∃ (j d : Nat) (D' : List Int), v = .int .i64 (j : Int) ∧ j ≤ K.length ∧ d ≤ i ∧ Hid (d = mx l (K.take j)) ∧ Hid (w6.heap[w1.heap.size]? = some (.cells (D'.map (Value.int .i64)).toArray 3)) ∧ Hid (DRow l i d D') ∧ Hid (Row0 w6 gk K) ∧ Hid (Below w1.heap.size w1 w6)) (fun v _ => K.length - (intOf v).toNat)
        case atStart => exact ⟨0, 0, D, rfl, Nat.zero_le _, Nat.zero_le _, Lib.hid rfl, HG5, Lib.hid (HD.out.row (by rw [HL.out]; exact hlt)), HR5, Lib.hid (HB2.out.trans (HB5.out.mono (by omega)))⟩
        case round =>
          obtain ⟨j, d, D', rfl, hj, hdi, HDM, HG6, HD6, HR6, HB6⟩ := hrel
          have hci := row0_of HG6.out i (d : Int) HD6.out.2.2.1
          have hfi := Blk_frozen HG6.out i
          by_cases hjl : j < K.length
          · obtain ⟨k, hk⟩ : ∃ k, K[j]? = some k := ⟨_, List.getElem?_eq_getElem hjl⟩
            have hck := HR6.out j k hk
            have HKK := Lib.hid hk
            obtain ⟨h0, h1⟩ := HAH.out k (List.mem_of_getElem? hk)
            clear hk
            obtain ⟨q, rfl⟩ := Int.eq_ofNat_of_zero_le h0
            obtain ⟨dq, hdq⟩ : ∃ dq, (deeps l).getD q 0 = dq := ⟨_, rfl⟩
            have hcq := row0_of HG6.out q (dq : Int) (by rw [← hdq]; exact HD6.out.2.1 q (by omega))
            have HNX : Hid (mx l (K.take (j + 1)) = max d dq) := Lib.hid (by rw [take_snoc K j _ HKK.out, mx_snoc, ← HDM.out, Int.toNat_natCast, hdq])
            have hdl : dq ≤ i := by
              have := deeps_le HKO.out q (by rw [HL.out]; omega)
              omega
            clear hdq
            go_wp2
            go_region
            all_goals go_wp2
            go_roundw
            case rel =>
              refine ⟨j + 1, max d dq, D'.set i ((max d dq : Nat) : Int), by go_num, by omega, by omega, Lib.hid HNX.out.symm, Lib.hid ?_, Lib.hid (HD6.out.set _), Lib.hid (Row0.drew (HR6.out.set (by omega))), Lib.hid (HB6.out.setCell (p := ⟨w1.heap.size, i, none⟩) (Nat.le_refl _) _).drew⟩
              have e : max (d : Int) (dq : Int) = ((max d dq : Nat) : Int) := by omega
              rw [e]
              exact set_row HG6.out
            case measure => simp [intOf]; omega
          · obtain rfl : j = K.length := by omega
            have hdm : d = mx l K := by have := HDM.out; rwa [List.take_length] at this
            subst hdm
            go_wp2
            go_roundw
            case rel =>
              refine ⟨i + 1, D'.set i ((mx l K + 1 : Nat) : Int), by go_num, by omega, Lib.hid ?_, Lib.hid ((HD6.out.set _).out HMX.out), Lib.hid (HB6.out.setCell (p := ⟨w1.heap.size, i, none⟩) (Nat.le_refl _) _)⟩
              exact set_row (k := i) (z := ((mx l K + 1 : Nat) : Int)) HG6.out
            case measure => simp [intOf]; omega
      · obtain rfl : i = L := by omega
        have hsub : IntKind.i64.wrap ((i : Int) - 1) = ((i - 1 : Nat) : Int) := by rw [IntWalk.i64_in _ (by omega)]; omega
        obtain ⟨r, hr⟩ : ∃ r, root l = r := ⟨_, rfl⟩
        have hcr := row0_of HG.out (i - 1) (r : Int) (by rw [HD.out.2.1 (i - 1) (by omega), ← hr, root, HL.out])
        have hrl : r ≤ i := by
          have := deeps_le HKO.out (i - 1) (by rw [HL.out]; omega)
          have h2 : root l = (deeps l).getD (i - 1) 0 := by rw [root, HL.out]
          omega
        by_cases hd : 100 < r
        · have hm : may l = 6 := may_deep hnf HF.out (by omega)
          have hdd : deepOf l = 0 := by unfold deepOf; rw [hm]; rfl
          have HMM := Lib.hid hm
          have HDD := Lib.hid hdd
          have hd1 : decide ((100 : Int) < (r : Int)) = true := by simp; omega
          have hd2 : (100 : Int) < (r : Int) := by omega
          clear hr hm hdd
          go_wp2
          go_ret2
          exact ⟨by rw [HMM.out, HDD.out]; rfl, HB.out⟩
        · have hm : may l = 0 := may_ok hnf HF.out (by omega)
          have hdd : deepOf l = (r : Int) := by unfold deepOf; rw [if_pos hm, hr]
          have HMM := Lib.hid hm
          have HDD := Lib.hid hdd
          have hd1 : decide ((100 : Int) < (r : Int)) = false := by simp; omega
          have hd2 : ¬ (100 : Int) < (r : Int) := by omega
          clear hr hm hdd
          go_wp2
          go_ret2
          exact ⟨by rw [HMM.out, HDD.out]; rfl, HB.out⟩
  · have HF := Lib.hid hf
    have hm : may l = 4 := may_form hnf hf
    have hd : deepOf l = 0 := by unfold deepOf; rw [hm]; rfl
    rw [hm, hd]
    clear hf hm hd hbx hK
    go_enter Tryd.func42, Tryd.ntmps42
    go_wp2_with (go_at_call 69; refine HFM.out.mono ?_; rintro e w1 ⟨fb, rfl, hiff, hb1⟩; obtain rfl : fb = false := (by cases fb with | false => rfl | true => exact absurd (hiff.1 rfl) HF.out); have HB1 := Lib.hid (((Below.refl _ w).alloc (Nat.le_refl _) _).trans (hb1.mono (by simp))); clear hiff hb1)
    go_ret2
    exact ⟨rfl, HB1.out⟩
/-- depth at whatever came in. -/
theorem depth_all (l : List Nd) (v : Value) (w : World) (hK : Kws w.heap.size w) (hv : Nodes w.heap.size w v l) (hS : ∀ x ∈ l, Small x) : Calls Tryd.prog 42 #[.agg #[v]] w (DPost (deepOf l) (may l) w) := by
  obtain ⟨A, c, rfl, ⟨h1, h2⟩, _, hp⟩ := hv
  by_cases h : l.length < 1 ∨ 600 < l.length
  · have hm := may_full h
    have hd : deepOf l = 0 := by unfold deepOf; rw [hm]; rfl
    rw [hm, hd]
    exact depth_full A _ c h (by omega) w
  · obtain ⟨b, o, rfl, hb, hn⟩ := hp (by omega)
    exact depth_any l _ c b o (Lib.hid rfl) (by omega) (by omega) w hK hb (Lib.hid hn) (Lib.hid hS)
theorem may_any (l : List Nd) (v : Value) (w : World) (hK : Kws w.heap.size w) (hv : Nodes w.heap.size w v l) (hS : ∀ x ∈ l, Small x) : Calls Tryd.prog 13 #[.agg #[v]] w fun e w' => e = .returned (.int .i64 (may l)) ∧ Below w.heap.size w w' := by
  have HD : Hid (∀ w1, Below w.heap.size w w1 → Calls Tryd.prog 42 #[.agg #[v]] w1 (DPost (deepOf l) (may l) w1)) := Lib.hid fun w1 hb => depth_all l v w1 (Kws_mono (hK.on hb) hb.size) ((hv.below hb).mono hb.size) hS
  obtain ⟨A, c, rfl, _⟩ := hv
  unfold DPost at HD
  go_enter Tryd.func13, Tryd.ntmps13
  go_wp2_with (go_at_call 42; refine (HD.out _ ((Below.refl _ w).alloc (Nat.le_refl _) _)).mono ?_; rintro e w1 ⟨rfl, hb⟩; have HB := Lib.hid hb; clear hb)
  go_ret
  exact ⟨rfl, ((Below.refl _ w).alloc (Nat.le_refl _) _).trans (HB.out.mono (by simp))⟩
theorem deep_any (l : List Nd) (v : Value) (w : World) (hK : Kws w.heap.size w) (hv : Nodes w.heap.size w v l) (hS : ∀ x ∈ l, Small x) : Calls Tryd.prog 14 #[.agg #[v]] w fun e w' => e = .returned (.int .i64 (deepOf l)) ∧ Below w.heap.size w w' := by
  have HD : Hid (∀ w1, Below w.heap.size w w1 → Calls Tryd.prog 42 #[.agg #[v]] w1 (DPost (deepOf l) (may l) w1)) := Lib.hid fun w1 hb => depth_all l v w1 (Kws_mono (hK.on hb) hb.size) ((hv.below hb).mono hb.size) hS
  obtain ⟨A, c, rfl, _⟩ := hv
  unfold DPost at HD
  go_enter Tryd.func14, Tryd.ntmps14
  go_wp2_with (go_at_call 42; refine (HD.out _ ((Below.refl _ w).alloc (Nat.le_refl _) _)).mono ?_; rintro e w1 ⟨rfl, hb⟩; have HB := Lib.hid hb; clear hb)
  go_ret
  exact ⟨rfl, ((Below.refl _ w).alloc (Nat.le_refl _) _).trans (HB.out.mono (by simp))⟩
end Go.Proofs.YteikpeaakmbihaaDoor.T
/- withPlaces, the program's: a copy of a node's parts, at other places. -/
namespace Go.Proofs.YteikpeaakmbihaaDoor.T
open Go.RowKit
theorem clone_any (s : ByteArray) (h : s.size ≤ 281474976710656) (w : World) : Calls Tryd.prog 63 #[.string s] w fun e w' => e = .returned (.string s) ∧ Below w.heap.size w w' := by
  have HC := Lib.hid (Tryd.stringslite_Clone s w h)
  go_enter Tryd.func63, Tryd.ntmps63
  go_wp2_with (go_at_call 78; refine HC.out.mono ?_; rintro e w1 ⟨rfl, hb⟩)
  go_ret
  exact ⟨rfl, hb⟩
/-- Parts that are all zero. -/
def noFld : Fld := ⟨⟨#[]⟩, ⟨#[]⟩, 0⟩
theorem fmake_arr (n : Nat) (hn : n ≤ 1000000) (w : World) : Sem.run Tryd.prog (Instr.makeSlice 25 (.int .i64 (n : Int)) (.int .i64 (n : Int))) w = .ok (.slice (some ⟨w.heap.size, 0, none⟩) n n) (w.alloc (.cells (fCells (List.replicate n noFld)).toArray 75)) := by
  obtain ⟨i0, hi, hz0, hz1, hz2⟩ := info_parts fldInfo
  have h := run_make (P := Tryd.prog) w 25 75 i0 _ Tryd.underlying25 hi hz0 .i64 .i64 (n : Int) (n : Int) (by omega) (by omega) (by rw [hz2]; omega) (by omega)
  rw [h, hz1]
  have e : madeCells (Value.agg #[.string ⟨#[]⟩, .string ⟨#[]⟩, .int .i64 0]).cells (n * 3) = (fCells (List.replicate n noFld)).toArray := by
    apply Array.ext
    · simp [madeCells, fCells_len]
    · intro i h1 h2
      have hin : i < n * 3 := by simpa [fCells_len] using h2
      have hq : i / 3 < n := by omega
      have hrep : (List.replicate n noFld)[i / 3]? = some noFld := by simp [hq]
      obtain ⟨c0, c1, c2⟩ := fCells_at _ _ _ hrep
      have key : some (madeCells (Value.agg #[.string ⟨#[]⟩, .string ⟨#[]⟩, .int .i64 0]).cells (n * 3))[i] = (fCells (List.replicate n noFld))[i]? := by
        have hm : i % 3 < 3 := Nat.mod_lt _ (by omega)
        have hi' : i = i / 3 * 3 + i % 3 := by omega
        obtain ⟨r, hr⟩ : ∃ r, i % 3 = r := ⟨_, rfl⟩
        rw [hr] at hm hi'
        match r, hm with
        | 0, _ => rw [show (fCells (List.replicate n noFld))[i]? = (fCells (List.replicate n noFld))[i / 3 * 3]? by congr 1, c0]; simp [madeCells, Value.cells, hr, noFld]
        | 1, _ => rw [show (fCells (List.replicate n noFld))[i]? = (fCells (List.replicate n noFld))[i / 3 * 3 + 1]? by congr 1, c1]; simp [madeCells, Value.cells, hr, noFld]
        | 2, _ => rw [show (fCells (List.replicate n noFld))[i]? = (fCells (List.replicate n noFld))[i / 3 * 3 + 2]? by congr 1, c2]; simp [madeCells, Value.cells, hr, noFld]
      rw [List.getElem?_eq_getElem (by simpa using h2)] at key
      simpa using Option.some.inj key
  rw [Int.toNat_natCast, e]
theorem fCells_set (L : List Fld) (i : Nat) (f : Fld) (hi : i < L.length) : ((((fCells L).toArray.setIfInBounds (i * 3) (.string f.nm)).setIfInBounds (i * 3 + 1) (.string f.vr)).setIfInBounds (i * 3 + 2) (.int .i64 f.pl)) = (fCells (L.set i f)).toArray := by
  simp only [List.setIfInBounds_toArray]
  congr 1
  induction L generalizing i with
  | nil => simp at hi
  | cons g L ih =>
    cases i with
    | zero => simp [fCells]
    | succ i =>
      have e : ∀ (g : Fld) (L : List Fld), fCells (g :: L) = .string g.nm :: .string g.vr :: .int .i64 g.pl :: fCells L := fun g L => by simp [fCells]
      rw [e, List.set_cons_succ, e, ← ih i (by simpa using hi), show (i + 1) * 3 = i * 3 + 1 + 1 + 1 by omega, show i * 3 + 1 + 1 + 1 + 1 = i * 3 + 1 + 1 + 1 + 1 by rfl, show i * 3 + 1 + 1 + 1 + 2 = i * 3 + 2 + 1 + 1 + 1 by omega, show i * 3 + 1 + 1 + 1 + 1 = (i * 3 + 1) + 1 + 1 + 1 by omega]
      simp only [List.set_cons_succ]
theorem mod_eq {W : World} {g i : Nat} {L : List Fld} {f : Fld} (h : W.heap[g]? = some (.cells (fCells L).toArray 75)) (hi : i < L.length) :
    (((W.setCell ⟨g, i * 3, none⟩ (.string f.nm)).setCell ⟨g, i * 3 + 1, none⟩ (.string f.vr)).setCell ⟨g, i * 3 + 2, none⟩ (.int .i64 f.pl)).heap[g]? = some (.cells (fCells (L.set i f)).toArray 75) := by
  have h1 := blk_put (j := i * 3) (v := .string f.nm) h
  have h2 := blk_put (j := i * 3 + 1) (v := .string f.vr) h1
  have h3 := blk_put (j := i * 3 + 2) (v := .int .i64 f.pl) h2
  rw [h3, fCells_set L i f hi]
theorem fCells_pl (L : List Fld) (i : Nat) (f : Fld) (z : Int) (hf : L[i]? = some f) : (fCells L).set (i * 3 + 2) (.int .i64 z) = fCells (L.set i { f with pl := z }) := by
  have e : ∀ (g : Fld) (L : List Fld), fCells (g :: L) = .string g.nm :: .string g.vr :: .int .i64 g.pl :: fCells L := fun g L => by simp [fCells]
  induction L generalizing i with
  | nil => simp at hf
  | cons g L ih =>
    cases i with
    | zero =>
      simp at hf
      subst hf
      simp [fCells]
    | succ i =>
      rw [show (i + 1) * 3 + 2 = i * 3 + 2 + 1 + 1 + 1 by omega, e g L]
      simp only [List.set_cons_succ]
      rw [e, ← ih i (by simpa using hf)]
theorem pl_eq {W : World} {g i : Nat} {L : List Fld} {f : Fld} {z : Int} (h : W.heap[g]? = some (.cells (fCells L).toArray 75)) (hf : L[i]? = some f) :
    (W.setCell ⟨g, i * 3 + 2, none⟩ (.int .i64 z)).heap[g]? = some (.cells (fCells (L.set i { f with pl := z })).toArray 75) := by
  rw [blk_put h, List.setIfInBounds_toArray, fCells_pl L i f z hf]
/-- The parts that are done, zeros behind. -/
def FRow (l : List Fld) (ks : List Int) (i : Nat) (L : List Fld) : Prop := L = relab (l.take i) (ks.take i) ++ List.replicate (l.length - i) noFld
theorem relab_len (l : List Fld) (ks : List Int) (h : l.length = ks.length) : (relab l ks).length = l.length := by simp [relab, h]
theorem relab_snoc (l : List Fld) (ks : List Int) (h : l.length = ks.length) (f : Fld) (k : Int) : relab (l ++ [f]) (ks ++ [k]) = relab l ks ++ [{ f with pl := k }] := by
  unfold relab
  rw [List.zipWith_append h]; rfl
theorem FRow.at {l : List Fld} {ks : List Int} {i : Nat} {L : List Fld} (h : FRow l ks i L) (hl : l.length = ks.length) (hi : i < l.length) : L.length = l.length ∧ L[i]? = some noFld := by
  have h1 : (relab (l.take i) (ks.take i)).length = i := by rw [relab_len _ _ (by rw [List.length_take, List.length_take, hl]), List.length_take]; omega
  subst h
  refine ⟨by rw [List.length_append, h1, List.length_replicate]; omega, ?_⟩
  rw [List.getElem?_append_right (by omega), h1, Nat.sub_self, List.getElem?_replicate, if_pos (by omega)]
theorem FRow.step {l : List Fld} {ks : List Int} {i : Nat} {L : List Fld} (h : FRow l ks i L) (hl : l.length = ks.length) {f : Fld} {k : Int} (hf : l[i]? = some f) (hk : ks[i]? = some k) : FRow l ks (i + 1) (L.set i { f with pl := k }) := by
  have hi := lt_of_some hf
  have h1 : (relab (l.take i) (ks.take i)).length = i := by rw [relab_len _ _ (by rw [List.length_take, List.length_take, hl]), List.length_take]; omega
  unfold FRow
  subst h
  rw [take_snoc l i f hf, take_snoc ks i k hk, relab_snoc _ _ (by rw [List.length_take, List.length_take, hl]), List.set_append_right _ _ (by omega), h1, Nat.sub_self]
  rw [show l.length - i = (l.length - (i + 1)) + 1 by omega, List.replicate_succ, List.set_cons_zero, List.append_assoc]
  rfl
theorem FRow.fin {l : List Fld} {ks : List Int} {L : List Fld} (h : FRow l ks l.length L) (hl : l.length = ks.length) : L = relab l ks := by
  unfold FRow at h
  rw [Nat.sub_self, List.take_length, hl, List.take_length] at h
  simpa using h
theorem FRow.start (l : List Fld) (ks : List Int) : FRow l ks 0 (List.replicate l.length noFld) := by simp [FRow, relab]
def PlPost (l : List Fld) (w : World) (e : Ending) (w' : World) : Prop := ∃ A c, e = .returned (.slice A l.length c) ∧ OwnF w.heap.size w' (.slice A l.length c) l ∧ Below w.heap.size w w'
theorem ownF_nil (B : Nat) (W : World) : OwnF B W (.slice none 0 0) [] := World.ownsRow_nil _ _ _ _
theorem ownF_of {B g n : Nat} {W : World} {l : List Fld} (h : W.heap[g]? = some (.cells (fCells l).toArray 75)) (hB : B ≤ g) (hn : n = l.length) (hm : l.length ≤ maxLen) : OwnF B W (.slice (some ⟨g, 0, none⟩) n n) l := by
  subst hn
  exact ⟨by rw [fCells_len], .inr ⟨g, l.length, _, rfl, hB, h, Nat.le_refl _, hm, by simp [fCells_len], by exact List.take_of_length_le (by simp [fCells_len])⟩⟩
theorem places_no (k a b c n pos : Int) (nm s : ByteArray) (vl ks : Value) (HP : Hid (partsB k = false)) (w : World) :
    Calls Tryd.prog 72 #[.agg #[.int .i64 k, .int .i64 a, .int .i64 b, .int .i64 c, .int .i64 n, .string nm, .string s, vl, .int .i64 pos], ks] w (PlPost [] w) := by
  go_enter Tryd.func72, Tryd.ntmps72
  go_wp2_with (go_at_call 44; refine (hasParts_is HP.out _).mono ?_; rintro e w1 ⟨rfl, rfl⟩)
  go_ret
  exact ⟨none, 0, rfl, ownF_nil _ _, (Below.refl _ w).alloc (Nat.le_refl _) _⟩
set_option maxRecDepth 100000 in
set_option maxHeartbeats 4000000 in
theorem places_zero (k a b c n pos : Int) (nm s : ByteArray) (A : Option Addr) (cp : Nat) (ks : Value) (HP : Hid (partsB k = true)) (w : World) :
    Calls Tryd.prog 72 #[.agg #[.int .i64 k, .int .i64 a, .int .i64 b, .int .i64 c, .int .i64 n, .string nm, .string s, .slice A 0 cp, .int .i64 pos], ks] w (PlPost [] w) := by
  have hmk : ∀ w : World, Sem.run Tryd.prog (Instr.makeSlice 25 (.int .i64 0) (.int .i64 0)) w = .ok (.slice (some ⟨w.heap.size, 0, none⟩) 0 0) (w.alloc (.cells #[] 75)) := fun w => by kernel_rfl
  go_enter Tryd.func72, Tryd.ntmps72
  go_wp2_with (go_at_call 44; refine (hasParts_is HP.out _).mono ?_; rintro e w1 ⟨rfl, rfl⟩)
  go_loop [19] (fun i => i = .int .i64 0) (fun _ => 0)
  case atStart => exact rfl
  case round =>
    obtain rfl := hrel
    go_wp2
    go_ret
    exact ⟨some ⟨w.heap.size + 1, 0, none⟩, 0, rfl, ownF_of (l := []) (heap_new _ _ _ (by simp)) (by omega) rfl (by simp [maxLen]), ((Below.refl _ w).alloc (Nat.le_refl _) _).alloc (by simp) _⟩
end Go.Proofs.YteikpeaakmbihaaDoor.T
/- withPlaces, the program's, of some parts. -/
namespace Go.Proofs.YteikpeaakmbihaaDoor.T
open Go.RowKit
/-- Whole numbers from a place of a block on. -/
def Row1 (W : World) (g o : Nat) (U : List Int) : Prop := ∀ j z, U[j]? = some z → W.cell? ⟨g, o + j, none⟩ = some (.int .i64 z)
theorem Row1.below {B : Nat} {W W' : World} {g o : Nat} {U : List Int} (h : Row1 W g o U) (hb : Below B W W') (hg : g < B) : Row1 W' g o U := fun j z hz => (hb.cell (p := ⟨g, _, none⟩) hg).trans (h j z hz)
set_option maxRecDepth 100000 in
set_option maxHeartbeats 8000000 in
theorem places_pos (k a b c n pos : Int) (nm s : ByteArray) (l : List Fld) (L cp fb fo : Nat) (ks : List Int) (gk ko ck : Nat) (HP : Hid (partsB k = true)) (HL : Hid (l.length = L)) (HKL : Hid (ks.length = L)) (hL0 : 0 < L) (hL : L ≤ 1000000) (w : World) (hfb : fb < w.heap.size) (hgk : gk < w.heap.size) (HF : Hid (FldsAt w fb fo l)) (HR : Hid (Row1 w gk ko ks)) (HS : Hid (∀ f ∈ l, f.nm.size ≤ 281474976710656 ∧ f.vr.size ≤ 281474976710656)) :
    Calls Tryd.prog 72 #[.agg #[.int .i64 k, .int .i64 a, .int .i64 b, .int .i64 c, .int .i64 n, .string nm, .string s, .slice (some ⟨fb, fo, none⟩) L cp, .int .i64 pos], .slice (some ⟨gk, ko, none⟩) L ck] w (PlPost (relab l ks) w) := by
  have hmk := fmake_arr L hL
  obtain ⟨w1, hw1⟩ : ∃ w1, (w.alloc (.cells #[.int .i64 k, .int .i64 a, .int .i64 b, .int .i64 c, .int .i64 n, .string nm, .string s, .slice (some ⟨fb, fo, none⟩) L cp, .int .i64 pos] 27)).alloc (.cells (fCells (List.replicate L noFld)).toArray 75) = w1 := ⟨_, rfl⟩
  have hmk1 := hmk (w.alloc (.cells #[.int .i64 k, .int .i64 a, .int .i64 b, .int .i64 c, .int .i64 n, .string nm, .string s, .slice (some ⟨fb, fo, none⟩) L cp, .int .i64 pos] 27))
  rw [hw1, World.size_alloc] at hmk1
  have HG1 : Hid (w1.heap[w.heap.size + 1]? = some (.cells (fCells (List.replicate L noFld)).toArray 75)) := Lib.hid (by rw [← hw1]; exact heap_new _ _ _ (by simp))
  have HB1 : Hid (Below w.heap.size w w1) := Lib.hid (by rw [← hw1]; exact ((Below.refl _ w).alloc (Nat.le_refl _) _).alloc (by simp) _)
  have hc7 : w1.cell? ⟨w.heap.size, 7, none⟩ = some (.slice (some ⟨fb, fo, none⟩) L cp) := by
    rw [← hw1, cell_under1 _ _ _ _ (by simp)]
    exact new_cellsT' w 27 [.int .i64 k, .int .i64 a, .int .i64 b, .int .i64 c, .int .i64 n, .string nm, .string s, .slice (some ⟨fb, fo, none⟩) L cp, .int .i64 pos] 7 _ rfl
  clear hmk hw1
  go_enter Tryd.func72, Tryd.ntmps72
  go_wp2_with (go_at_call 44; refine (hasParts_is HP.out _).mono ?_; rintro e w1 ⟨rfl, rfl⟩)
  go_loopw [19] (fun v wr => ∃ (i : Nat) (LL : List Fld), v = .int .i64 (i : Int) ∧ i ≤ L ∧ Hid (wr.heap[w.heap.size + 1]? = some (.cells (fCells LL).toArray 75)) ∧ Hid (FRow l ks i LL) ∧ Hid (Below w.heap.size w wr)) (fun v _ => L - (intOf v).toNat)
  case atStart => exact ⟨0, _, rfl, Nat.zero_le _, HG1, Lib.hid (HL.out ▸ FRow.start l ks), HB1⟩
  case round =>
    obtain ⟨i, LL, rfl, hi, HG, HD, HB⟩ := hrel
    have hgs : w.heap.size + 1 < wr.heap.size := (Array.getElem?_eq_some_iff.1 HG.out).1
    by_cases hlt : i < L
    · obtain ⟨fd, hfd⟩ : ∃ fd, l[i]? = some fd := ⟨_, List.getElem?_eq_getElem (by rw [HL.out]; exact hlt)⟩
      obtain ⟨kk, hkk⟩ : ∃ kk, ks[i]? = some kk := ⟨_, List.getElem?_eq_getElem (by rw [HKL.out]; exact hlt)⟩
      obtain ⟨m0, m1, m2⟩ := (HF.out.below HB.out hfb) i fd hfd
      have HS1 := Lib.hid (HS.out fd (List.mem_of_getElem? hfd))
      have HX := Lib.hid hfd
      have HKK := Lib.hid hkk
      have HLL := Lib.hid (HD.out.at (by rw [HL.out, HKL.out]) (by rw [HL.out]; exact hlt))
      obtain ⟨z0, z1, z2⟩ := fCells_at LL i noFld HLL.out.2
      have g0 := (Blk_cell HG.out (i * 3)).trans (by rw [List.getElem?_toArray, z0])
      have g1 := (Blk_cell HG.out (i * 3 + 1)).trans (by rw [List.getElem?_toArray, z1])
      have g2 := (Blk_cell HG.out (i * 3 + 2)).trans (by rw [List.getElem?_toArray, z2])
      have f0 := Blk_frozen HG.out (i * 3)
      have f1 := Blk_frozen HG.out (i * 3 + 1)
      have f2 := Blk_frozen HG.out (i * 3 + 2)
      clear hfd hkk z0 z1 z2
      have hq0 : w.heap.size + 1 < wr.heap.size + 1 := by omega
      go_wp2_with fail
      have HC0 : Hid (Below (wr.alloc (.cells #[.string fd.nm, .string fd.vr, .int .i64 fd.pl] 75)).heap.size (wr.alloc (.cells #[.string fd.nm, .string fd.vr, .int .i64 fd.pl] 75)) (wr.alloc (.cells #[.string fd.nm, .string fd.vr, .int .i64 fd.pl] 75)).drew) := Lib.hid (Below.refl _ _).drew
      go_region_with (go_at_call 63; refine (clone_any _ (by first | exact HS1.out.1 | exact HS1.out.2) _).mono ?_; rintro e w2 ⟨rfl, hb2⟩; obtain ⟨hc, hf⟩ := bcellT hb2; have HC0 := Lib.hid (HC0.out.trans (hb2.mono HC0.out.size)); have hq := HC0.out.size; rw [World.size_alloc] at hq; have hqa : w.heap.size + 1 < w2.heap.size := (by omega); have hqb : wr.heap.size < w2.heap.size := (by omega); clear hb2 hq)
      all_goals
        have HG2 := Lib.hid ((HC0.out.block (w.heap.size + 1) (by rw [World.size_alloc]; omega)).trans (((Below.refl wr.heap.size wr).alloc (Nat.le_refl _) (.cells #[.string fd.nm, .string fd.vr, .int .i64 fd.pl] 75)).block (w.heap.size + 1) hgs |>.trans HG.out))
        have HG3 := Lib.hid (mod_eq (f := ⟨fd.nm, fd.vr, 0⟩) HG2.out (by rw [HLL.out.1, HL.out]; exact hlt))
        have HB2 := Lib.hid (((HB.out.alloc HB.out.size (.cells #[.string fd.nm, .string fd.vr, .int .i64 fd.pl] 75))).trans (HC0.out.mono (by rw [World.size_alloc]; have := HB.out.size; omega)))
        have HB3 := Lib.hid (((HB2.out.setCell (p := ⟨w.heap.size + 1, i * 3, none⟩) (by simp) (.string fd.nm)).setCell (p := ⟨w.heap.size + 1, i * 3 + 1, none⟩) (by simp) (.string fd.vr)).setCell (p := ⟨w.heap.size + 1, i * 3 + 2, none⟩) (by simp) (.int .i64 0))
        have hk3 := (HR.out.below HB3.out hgk) i kk HKK.out
        have HLS : Hid ((LL.set i ⟨fd.nm, fd.vr, 0⟩)[i]? = some ⟨fd.nm, fd.vr, 0⟩) := Lib.hid (by rw [List.getElem?_set_self (by rw [HLL.out.1, HL.out]; exact hlt)])
        have g5 := (Blk_cell HG3.out (i * 3 + 2)).trans (by rw [List.getElem?_toArray, (fCells_at _ _ _ HLS.out).2.2])
        have f5 := Blk_frozen HG3.out (i * 3 + 2)
        clear hc hf g0 g1 g2 f0 f1 f2 hqa hqb hq0
        go_wp2
        go_roundw
        case rel =>
          refine ⟨i + 1, LL.set i { fd with pl := kk }, by go_num, by omega, Lib.hid ?_, Lib.hid (HD.out.step (by rw [HL.out, HKL.out]) HX.out HKK.out), Lib.hid (HB3.out.setCell (p := ⟨w.heap.size + 1, i * 3 + 2, none⟩) (by simp) _)⟩
          have h := pl_eq (z := kk) HG3.out HLS.out
          rw [List.set_set] at h
          exact h
        case measure => simp [intOf]; omega
    · obtain rfl : i = L := by omega
      have HE := Lib.hid (FRow.fin (HL.out ▸ HD.out : FRow l ks l.length LL) (by rw [HL.out, HKL.out]))
      go_wp2
      go_ret
      have hlen : (relab l ks).length = i := by rw [relab_len l ks (by rw [HL.out, HKL.out]), HL.out]
      exact ⟨some ⟨w.heap.size + 1, 0, none⟩, i, by rw [hlen]; rfl, by rw [hlen]; exact ownF_of (HE.out ▸ HG.out) (by omega) hlen.symm (by unfold maxLen; omega), HB.out⟩
/-- withPlaces at whatever node; l: the places behind its own children. -/
theorem places_any (x : Nd) (a b c : Int) (vl : Value) (ks : List Int) (A : Option Addr) (ck : Nat) (w : World) (hv : Flds w.heap.size w vl x.l) (hL : x.l.length ≤ 1000000) (hS : ∀ f ∈ x.l, f.nm.size ≤ 281474976710656 ∧ f.vr.size ≤ 281474976710656) (hk : partsB x.kind = true → ks.length = x.l.length) (hA : 0 < ks.length → ∃ gk ko, A = some ⟨gk, ko, none⟩ ∧ gk < w.heap.size ∧ Row1 w gk ko ks) :
    Calls Tryd.prog 72 #[.agg (ndArr { x with a := a, b := b, c := c } vl), .slice A ks.length ck] w (PlPost (if many x = true then relab x.l ks else []) w) := by
  obtain ⟨k, a0, b0, c0, n, nm, s, l, pos⟩ := x
  simp only at hv hL hS hk
  obtain ⟨FA, cp, rfl, _, _, hq⟩ := hv
  have hm : many ⟨k, a0, b0, c0, n, nm, s, l, pos⟩ = partsB k := rfl
  rw [hm]
  cases hp : partsB k with
  | false =>
    rw [if_neg (by simp)]
    exact places_no k a b c n pos nm s _ _ (Lib.hid hp) w
  | true =>
    rw [if_pos rfl]
    have hk' := hk hp
    by_cases h0 : 0 < l.length
    · obtain ⟨fb, fo, rfl, hlt, hf⟩ := hq h0
      obtain ⟨gk, ko, rfl, hgk, hr⟩ := hA (by omega)
      have := places_pos k a b c n pos nm s l l.length cp fb fo ks gk ko ck (Lib.hid hp) (Lib.hid rfl) (Lib.hid hk') h0 hL w hlt hgk (Lib.hid hf) (Lib.hid hr) (Lib.hid hS)
      rw [hk']
      exact this
    · obtain rfl : l = [] := List.eq_nil_of_length_eq_zero (by omega)
      have e : relab [] ks = [] := by simp [relab]
      rw [e]
      exact places_zero k a b c n pos nm s FA cp _ (Lib.hid hp) w
end Go.Proofs.YteikpeaakmbihaaDoor.T
/- withKids, the program's: a copy of a node with other children. -/
namespace Go.Proofs.YteikpeaakmbihaaDoor.T
open Go.RowKit
/-- What withKids answers: these cells, but for the parts, which are the call's own. -/
def WPost (cs : Value → Array Value) (l : List Fld) (w : World) (e : Ending) (w' : World) : Prop := ∃ A c, e = .returned (.agg (cs (.slice A l.length c))) ∧ OwnF w.heap.size w' (.slice A l.length c) l ∧ Below w.heap.size w w'
theorem res33 (tmps : Array Value) (W : World) (p : Nat) (v0 v1 v2 v3 v4 v5 v6 v7 v8 : Value) (h2 : tmps[4]?.getD undef = .pointer (some ⟨p, 0, none⟩)) (hb : W.heap[p]? = some (.cells #[v0, v1, v2, v3, v4, v5, v6, v7, v8] 27 (0, 0))) :
    Sem.run Tryd.prog (results Tryd.f47 tmps) W = .ok (.agg #[v0, v1, v2, v3, v4, v5, v6, v7, v8]) W := by
  have c0 := Blk_cell hb 0
  have c1 := Blk_cell hb 1
  have c2 := Blk_cell hb 2
  have c3 := Blk_cell hb 3
  have c4 := Blk_cell hb 4
  have c5 := Blk_cell hb 5
  have c6 := Blk_cell hb 6
  have c7 := Blk_cell hb 7
  have c8 := Blk_cell hb 8
  simp [results, Tryd.results47, go_sem, h2, c0, c1, c2, c3, c4, c5, c6, c7, c8]
theorem set_far (W : World) (b j k : Nat) (v : Value) (h : k ≠ b) : (W.setCell ⟨b, j, none⟩ v).heap[k]? = W.heap[k]? := by
  show (W.heap.modify b _)[k]? = _
  rw [Array.getElem?_modify, if_neg (fun e => h e.symm)]
theorem cells9 {W : World} {b : Nat} {c0 c1 c2 c3 c4 c5 c6 c7 c8 : Value} (h : W.heap[b]? = some (.cells #[c0, c1, c2, c3, c4, c5, c6, c7, c8] 27 (0, 0))) :
    W.cell? ⟨b, 0, none⟩ = some c0 ∧ W.cell? ⟨b, 1, none⟩ = some c1 ∧ W.cell? ⟨b, 2, none⟩ = some c2 ∧ W.cell? ⟨b, 3, none⟩ = some c3 ∧ W.cell? ⟨b, 4, none⟩ = some c4 ∧ W.cell? ⟨b, 5, none⟩ = some c5 ∧ W.cell? ⟨b, 6, none⟩ = some c6 ∧ W.cell? ⟨b, 7, none⟩ = some c7 ∧ W.cell? ⟨b, 8, none⟩ = some c8 ∧ ∀ j, W.frozen? ⟨b, j, none⟩ = false :=
  ⟨(Blk_cell h 0).trans rfl, (Blk_cell h 1).trans rfl, (Blk_cell h 2).trans rfl, (Blk_cell h 3).trans rfl, (Blk_cell h 4).trans rfl, (Blk_cell h 5).trans rfl, (Blk_cell h 6).trans rfl, (Blk_cell h 7).trans rfl, (Blk_cell h 8).trans rfl, fun j => Blk_frozen h j⟩
theorem ownF_set {B b j : Nat} {W : World} {v u : Value} {l : List Fld} (h : OwnF B W v l) (hb : b < B) : OwnF B (W.setCell ⟨b, j, none⟩ u) v l :=
  World.ownsRow.kept h (grown_set W b j u) (by
    cases hv : v.ownBlock with
    | none => exact .inl rfl
    | some k =>
      refine .inr (fun e => ?_)
      have := (World.ownsRow.lt h k hv).1
      injection e with e
      omega)
theorem ownF_set9 {B b : Nat} {W : World} {v v0 v1 v2 v3 v4 v5 v6 v7 v8 : Value} {l : List Fld} (h : OwnF B W v l) (hb : b < B) :
    OwnF B (((((((((W.setCell ⟨b, 0, none⟩ v0).setCell ⟨b, 1, none⟩ v1).setCell ⟨b, 2, none⟩ v2).setCell ⟨b, 3, none⟩ v3).setCell ⟨b, 4, none⟩ v4).setCell ⟨b, 5, none⟩ v5).setCell ⟨b, 6, none⟩ v6).setCell ⟨b, 7, none⟩ v7).setCell ⟨b, 8, none⟩ v8) v l :=
  ownF_set (ownF_set (ownF_set (ownF_set (ownF_set (ownF_set (ownF_set (ownF_set (ownF_set h hb) hb) hb) hb) hb) hb) hb) hb) hb
/-- Nine cells stored into a block of nine. -/
theorem store9 {W : World} {b : Nat} {v0 v1 v2 v3 v4 v5 v6 v7 v8 c0 c1 c2 c3 c4 c5 c6 c7 c8 : Value} (h : W.heap[b]? = some (.cells #[c0, c1, c2, c3, c4, c5, c6, c7, c8] 27 (0, 0))) :
    (((((((((W.setCell ⟨b, 0, none⟩ v0).setCell ⟨b, 1, none⟩ v1).setCell ⟨b, 2, none⟩ v2).setCell ⟨b, 3, none⟩ v3).setCell ⟨b, 4, none⟩ v4).setCell ⟨b, 5, none⟩ v5).setCell ⟨b, 6, none⟩ v6).setCell ⟨b, 7, none⟩ v7).setCell ⟨b, 8, none⟩ v8).heap[b]? = some (.cells #[v0, v1, v2, v3, v4, v5, v6, v7, v8] 27 (0, 0)) := by
  have h2 := blk_put (j := 0) (v := v0) h
  have h3 := blk_put (j := 1) (v := v1) h2
  have h4 := blk_put (j := 2) (v := v2) h3
  have h5 := blk_put (j := 3) (v := v3) h4
  have h6 := blk_put (j := 4) (v := v4) h5
  have h7 := blk_put (j := 5) (v := v5) h6
  have h8 := blk_put (j := 6) (v := v6) h7
  have h9 := blk_put (j := 7) (v := v7) h8
  have h10 := blk_put (j := 8) (v := v8) h9
  rw [h10]
  simp
theorem grow9 {B : Nat} {W : World} {b : Nat} (hb : B ≤ b) {v0 v1 v2 v3 v4 v5 v6 v7 v8 : Value} :
    Below B W (((((((((W.setCell ⟨b, 0, none⟩ v0).setCell ⟨b, 1, none⟩ v1).setCell ⟨b, 2, none⟩ v2).setCell ⟨b, 3, none⟩ v3).setCell ⟨b, 4, none⟩ v4).setCell ⟨b, 5, none⟩ v5).setCell ⟨b, 6, none⟩ v6).setCell ⟨b, 7, none⟩ v7).setCell ⟨b, 8, none⟩ v8) :=
  (((((((((Below.refl B W).setCell (p := ⟨b, 0, none⟩) hb v0).setCell (p := ⟨b, 1, none⟩) hb v1).setCell (p := ⟨b, 2, none⟩) hb v2).setCell (p := ⟨b, 3, none⟩) hb v3).setCell (p := ⟨b, 4, none⟩) hb v4).setCell (p := ⟨b, 5, none⟩) hb v5).setCell (p := ⟨b, 6, none⟩) hb v6).setCell (p := ⟨b, 7, none⟩) hb v7).setCell (p := ⟨b, 8, none⟩) hb v8
end Go.Proofs.YteikpeaakmbihaaDoor.T
