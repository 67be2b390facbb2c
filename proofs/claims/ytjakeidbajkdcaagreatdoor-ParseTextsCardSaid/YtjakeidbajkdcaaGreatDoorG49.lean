/- Joined by program. -/
import Derived.Test.YtjakeidbajkdcaaGreatDoorG47
import Derived.Test.YtjakeidbajkdcaaGreatDoorG48
import Derived.Test.YtjakeidbajkdcaaGreatDoorG44
import Derived.Test.YtjakeidbajkdcaaGreatDoorG33
import Derived.Test.YtjakeidbajkdcaaGreatDoorG16
set_option maxRecDepth 100000
set_option maxHeartbeats 16000000
namespace Go.Proofs.YtjakeidbajkdcaaGreatDoor.B
open T Go.RowKit Go.Shelf L
open A (Fr)
attribute [local go_sem] A.zat A.zau A.zas
theorem zoc {l : List Tk} {E : Int} {m : Nat} (hl : l.length <= 20000) : Sim ⟨l, E, 0, 0, 0, m⟩ (4 * l.length + 1) (ex E l) (exprQ 101 ⟨l, E, 0, 0, 0, m⟩) := (zf1 (need .expr l.length)).expr 101 0 ⟨l, E, 0, 0, 0, m⟩ rfl rfl (by omega) (by omega) hl (lrf _)
theorem zxo {l : List Tk} {E : Int} {t : List Nd} {r : List Tk} (hl : l.length <= 200000) (ht : ∀ x ∈ l, x.s.size <= 281474976710656) (hx : ex E l = .ok t r) : ∀ x ∈ t, Clonable x := by
 have h : A.Sim [] ⟨l, E, false, 0, 0, [], 0⟩ (A.fi ⟨l, E, false, 0, 0, [], 0⟩ + 4) (ex E l) (A.exprP 101 ⟨l, E, false, 0, 0, [], 0⟩) := (A.zf1 (need .expr l.length)).expr 101 0 ⟨l, E, false, 0, 0, [], 0⟩ ⟨rfl, rfl⟩ rfl (by omega) (by omega) (by simp [A.fi]; omega) (lrf _)
 rw [hx] at h
 simp only [A.Sim] at h
 rw [zob (zkn hx).1] at h
 exact fun x hm => (A.ztt 101 _ _ ⟨ht, fun x hx => by cases hx⟩ h).2 x hm
theorem res9 (tmps : Array Value) (W : World) (p : Nat) (A : Option Addr) (n c : Nat) (z er : Int) (h2 : tmps[2]?.getD undef = .pointer (some ⟨p, 0, none⟩)) (h3 : tmps[3]?.getD undef = .int .i64 z) (h4 : tmps[4]?.getD undef = .int .i64 er) (hb : W.cell? ⟨p, 0, none⟩ = some (.slice A n c)) :
  Sem.run Tryz.prog (results Tryz.f9 tmps) W = .ok (.tuple #[.agg #[.slice A n c], .int .i64 z, .int .i64 er]) W := by
 simp [results, Tryz.results9, go_sem, h2, h3, h4, hb]
section
variable {w w1 w' W : World} {rb : Nat} {s s' : RS}
theorem zp4 {B pb : Nat} (h : Qs B pb rb w s) : ∃ k : Nat, w.cell? ⟨rb, 1, none⟩ = some (.int .i64 (k : Int)) /\ k + s.l.length = s.m := by
 obtain ⟨A, c, L, k, _, e2, e3, e4, e5, _⟩ := h.at_
 refine ⟨k, zaa e2 1, ?_⟩
 rw [e4, List.length_drop, <- e5.1]
 omega
structure Stg (w W : World) (rb : Nat) (s : RS) : Prop where
 st : Qs (rb + 2) (rb + 1) rb W s
 r0 : W.heap[w.heap.size]? = some (.cells #[.slice none 0 0] 25 (0, 0))
 bl : Below w.heap.size w W
 hr : w.heap.size < rb
theorem Stg.next (h : Stg w W rb s) (h' : Qs (rb + 2) (rb + 1) rb w' s') (k : Fr (SS (rb + 1) rb) W w') : Stg w w' rb s' := by
 have hr := h.hr
 have hss : ∀ k, SS (rb + 1) rb k -> rb <= k := fun k hk => by rcases hk with rfl | rfl <;> omega
 exact ⟨h', (k.block _ (age.1 h.r0).1 fun hh => by have := hss _ hh; omega).trans h.r0, h.bl.trans (k.below (fun k hk => by have := hss k hk; omega) h.bl.size), hr⟩
theorem Stg.below (h : Stg w W rb s) (hb : Below W.heap.size W w') : Stg w w' rb s := h.next (h.st.below hb) (zba hb)
theorem Stg.made {l : List L.Item} {AA : Option Addr} {c b0 : Nat} {n : Int} (hb1 : Below (w.alloc (.cells #[.slice none 0 0] 25)).heap.size (w.alloc (.cells #[.slice none 0 0] 25)) w1) (hR : w1.ownsRow b0 63 4 (.slice AA l.length c) l.length (cellsL l)) (hL : l.length <= 1000000) :
  Stg w ((w1.alloc (.cells #[.slice AA l.length c, .int .i64 0, .int .i64 n] 57)).alloc (.cells #[.pointer (some ⟨w1.heap.size, 0, none⟩), .int .i64 0, .int .i64 0, .int .i64 0] 59)) w1.heap.size ⟨l.map A.tkOf, n, 0, 0, 0, l.length⟩ := by
 have hs1 := hb1.size
 rw [World.size_alloc] at hs1
 have ba := (br w1.heap.size w1).alloc (lrf _) (.cells #[.slice AA l.length c, .int .i64 0, .int .i64 n] 57)
 have bb := ba.alloc (by simp) (.cells #[.pointer (some ⟨w1.heap.size, 0, none⟩), .int .i64 0, .int .i64 0, .int .i64 0] 59)
 have e1 := anw w1 (.cells #[.slice AA l.length c, .int .i64 0, .int .i64 n] 57)
 have e2 := anw (w1.alloc (.cells #[.slice AA l.length c, .int .i64 0, .int .i64 n] 57)) (.cells #[.pointer (some ⟨w1.heap.size, 0, none⟩), .int .i64 0, .int .i64 0, .int .i64 0] 59)
 rw [World.size_alloc] at e2
 have bc := (br (w1.heap.size + 1) (w1.alloc (.cells #[.slice AA l.length c, .int .i64 0, .int .i64 n] 57))).alloc (by simp) (.cells #[.pointer (some ⟨w1.heap.size, 0, none⟩), .int .i64 0, .int .i64 0, .int .i64 0] 59)
 have e3 := (bc.block w1.heap.size (by omega)).trans e1
 refine ⟨⟨by omega, by omega, by omega, by simp, AA, c, l.map A.tkOf, 0, e2, ?_, Nat.zero_le _, rfl, ⟨by simp, by simpa using hL⟩, fun h0 => ?_⟩, ?_, ?_, by omega⟩
 ·rw [List.length_map]; exact e3
 ·have hl0 : l ≠ [] := fun h => h0 (by rw [h]; rfl)
  obtain ⟨g, rfl, hg2⟩ : ∃ g, AA = some ⟨g, 0, none⟩ /\ g < w1.heap.size := by
   rcases hR.2 with ⟨_, e0⟩ | ⟨g, cap, cur, e, _, e3, _⟩
   ·exact absurd (List.eq_nil_of_length_eq_zero e0) hl0
   ·simp only [Value.slice.injEq, true_and] at e
    exact ⟨g, e.1, (age.1 e3).1⟩
  have hh := zfl (zig hR) bb hg2
  refine ⟨g, 0, rfl, by omega, by omega, by omega, fun j t hj => ?_⟩
  rw [List.getElem?_map] at hj
  obtain ⟨x, hx, rfl⟩ := Option.map_eq_some_iff.1 hj
  have := hh j x hx
  simp only [Nat.zero_add]
  exact this
 ·rw [bb.block _ (by omega), hb1.block _ (by simp)]
  exact anw w _
 ·exact ((baw w _).trans (hb1.mono (by simp))).trans (bb.mono (by omega))
end
theorem zl1 (s : ByteArray) (hs : s.size <= 20000) (w : World) (he : err s ≠ 0) : Calls Tryz.prog 9 #[.string s] w (A.ParsePost ([], place s, err s) w) := by
 have hb0 : Below w.heap.size w (w.alloc (.cells #[.slice none 0 0] 25)) := baw w _
 have HA := jj (zft (B := (w.alloc (.cells #[.slice none 0 0] 25)).heap.size) s (by omega) (w.alloc (.cells #[.slice none 0 0] 25)) (lrf _))
 have HB := jj hb0
 have hz : (err s != 0) = true := by simpa using he
 clear hb0 he
 go_enter Tryz.func9, Tryz.ntmps9
 go_wp2_with (go_at_call 29; refine HA.out.mono ?_; rintro e w1 ⟨v, rfl, hrow, hb1⟩; obtain ⟨A, cp, rfl⟩ := zcq hrow; have k0 := (hb1.cell (p := ⟨w.heap.size, 0, none⟩) (by simp)).trans (zaa (anw w (.cells #[.slice none 0 0] 25)) 0); have k2 : w1.frozen? ⟨w.heap.size, 0, none⟩ = false := (hb1.frozen (p := ⟨w.heap.size, 0, none⟩) (by simp)).trans (zac (anw w (.cells #[.slice none 0 0] 25)) 0); have HX := jj hb1; clear hb1 hrow)
 exact bodyPost_ret (res9 _ _ w.heap.size none 0 0 _ _ rfl rfl rfl (by go_simp)) rfl ⟨_, [], rfl, rfl, zcp _ _, (HB.out.trans (HX.out.mono (by simp))).setCell (p := ⟨w.heap.size, 0, none⟩) (lrf _) _⟩
theorem zmh (s : ByteArray) (hs : s.size <= 20000) (w : World) (he : err s = 0) {e p : Int} (hx : ex (place s) (A.tks s) = .bad e p) : Calls Tryz.prog 9 #[.string s] w (A.ParsePost ([], p, e) w) := by
 have hL : (toks s).length <= 20000 := ltr (zes s) hs
 have h := zoc (l := A.tks s) (E := place s) (m := (toks s).length) (by rw [A.tks, List.length_map]; exact hL)
 rw [hx] at h
 obtain ⟨t0, s1, h1, ⟨h2, h3, h4⟩, _, _⟩ := h
 have HA := jj (zft (B := (w.alloc (.cells #[.slice none 0 0] 25)).heap.size) s (by omega) (w.alloc (.cells #[.slice none 0 0] 25)) (lrf _))
 have hz : (err s != 0) = false := by simpa using he
 have hz1 : (e == 0) = false := by simpa using h4
 have hz2 : (e != 0) = true := by simpa using h4
 have HX : Hid (∀ W rb, Qs (rb + 2) (rb + 1) rb W ⟨A.tks s, place s, 0, 0, 0, (toks s).length⟩ -> Calls Tryz.prog 30 #[.pointer (some ⟨rb + 1, 0, none⟩)] W (TP (rb + 2) (rb + 1) rb W t0 s1)) := jj fun W rb hW => zhp _ _ _ 101 W _ _ _ hW h1
 have HL := jj hL
 have H2 := jj h2
 have H3 := jj h3
 clear he hx h1 h2 h3 h4 hL
 go_enter Tryz.func9, Tryz.ntmps9
 go_wp2_with (first | (go_at_call 29; refine HA.out.mono ?_; rintro e w1 ⟨v, rfl, hrow, hb1⟩; obtain ⟨A, cp, rfl⟩ := zcq hrow; have HS := jj (Stg.made (n := place s) hb1 hrow (by have := HL.out; omega)); clear hb1 hrow) | (go_at_call 30; refine (HX.out _ _ HS.out.st).mono ?_; rintro e w4 ⟨A4, c4, rfl, t4, q4, k4⟩; have h4a := (HS.out.next q4 k4).below (baw w4 (.cells #[.slice A4 t0.length c4] 25)); obtain ⟨c0, c1, c2, c3, cf⟩ := h4a.st.pcells; rw [H2.out] at c1; rw [H3.out] at c2; have r0 := zaa h4a.r0 0; have f0 := zac h4a.r0 0; have H4 := jj h4a; clear q4 k4 t4 cf h4a))
 go_region
 all_goals
  go_wp2
  refine bodyPost_ret (res9 _ _ w.heap.size none 0 0 _ _ rfl rfl rfl (by go_simp)) rfl ⟨_, [], rfl, rfl, zcp _ _, ?_⟩
  first
   | exact (H4.out.bl.setCell (p := ⟨w.heap.size, 0, none⟩) (lrf _) _).drew
   | exact H4.out.bl.drew
   | exact H4.out.bl.drew.setCell (p := ⟨w.heap.size, 0, none⟩) (lrf _) _
theorem zka (s : ByteArray) (hs : s.size <= 20000) (w : World) (he : err s = 0) {t0 : List Nd} {y : Tk} {r : List Tk} (hx : ex (place s) (A.tks s) = .ok t0 (y :: r)) : Calls Tryz.prog 9 #[.string s] w (A.ParsePost ([], y.p, 5) w) := by
 have hL : (toks s).length <= 20000 := ltr (zes s) hs
 have h := zoc (l := A.tks s) (E := place s) (m := (toks s).length) (by rw [A.tks, List.length_map]; exact hL)
 rw [hx] at h
 have h1 : exprQ 101 ⟨A.tks s, place s, 0, 0, 0, (toks s).length⟩ = some (t0, ⟨y :: r, place s, 0, 0, 0, (toks s).length⟩) := h
 have HA := jj (zft (B := (w.alloc (.cells #[.slice none 0 0] 25)).heap.size) s (by omega) (w.alloc (.cells #[.slice none 0 0] 25)) (lrf _))
 have hz : (err s != 0) = false := by simpa using he
 obtain ⟨n, hn⟩ : ∃ n, (toks s).length = n := ⟨_, rfl⟩
 have HX : Hid (∀ W rb, Qs (rb + 2) (rb + 1) rb W ⟨A.tks s, place s, 0, 0, 0, n⟩ -> Calls Tryz.prog 30 #[.pointer (some ⟨rb + 1, 0, none⟩)] W (TP (rb + 2) (rb + 1) rb W t0 ⟨y :: r, place s, 0, 0, 0, n⟩)) := jj fun W rb hW => zhp _ _ _ 101 W _ _ _ hW (by rw [<- hn]; exact h1)
 have HL := jj hL
 have HN := jj hn
 clear he hx h h1 hL hn
 go_enter Tryz.func9, Tryz.ntmps9
 go_wp2_with (first | (go_at_call 29; refine HA.out.mono ?_; rintro e w1 ⟨v, rfl, hrow, hb1⟩; obtain ⟨A, cp, rfl⟩ := zcq hrow; have HS := jj (Stg.made (n := place s) hb1 hrow (by have := HL.out; omega)); rw [HN.out] at HS ⊢; clear hb1 hrow) | (go_at_call 30; refine (HX.out _ _ HS.out.st).mono ?_; rintro e w4 ⟨A4, c4, rfl, t4, q4, k4⟩; have h4a := (HS.out.next q4 k4).below (baw w4 (.cells #[.slice A4 t0.length c4] 25)); obtain ⟨c0, c1, c2, c3, cf⟩ := h4a.st.pcells; obtain ⟨k, d1, dk⟩ := zp4 h4a.st; have hlt : (k : Int) < (n : Int) := (by simp only [List.length_cons] at dk; omega); have H4 := jj h4a; clear q4 k4 t4 cf h4a dk) | (go_at_call 32; refine (za1 H4.out.st).mono ?_; rintro e w5 ⟨rfl, hb5⟩; have H5 := jj (H4.out.below hb5); clear hb5) | (go_at_call 31; refine (zfn H5.out.st 5 y.p).mono ?_; rintro e w6 ⟨rfl, q6, k6⟩; have h6a := H5.out.next q6 k6; obtain ⟨e0, e1, e2, e3, ef⟩ := h6a.st.pcells; have e1' : w6.cell? ⟨w1.heap.size + 1, 1, none⟩ = some (.int .i64 5) := e1; have e2' : w6.cell? ⟨w1.heap.size + 1, 2, none⟩ = some (.int .i64 y.p) := e2; have r0 := zaa h6a.r0 0; have f0 := zac h6a.r0 0; have H6 := jj h6a; clear q6 k6 ef h6a e1 e2))
 go_region
 all_goals
  go_wp2
  refine bodyPost_ret (res9 _ _ w.heap.size none 0 0 _ _ rfl rfl rfl (by go_simp)) rfl ⟨_, [], rfl, rfl, zcp _ _, ?_⟩
  first
   | exact (H6.out.bl.setCell (p := ⟨w.heap.size, 0, none⟩) (lrf _) _).drew
   | exact H6.out.bl.drew
   | exact H6.out.bl.drew.setCell (p := ⟨w.heap.size, 0, none⟩) (lrf _) _
theorem zz8 {t : List Nd} (h : ∀ (j : Nat) x, t[j]? = some x -> x.pos <= 1048576) : far t = false := by
 unfold far
 rw [List.any_eq_false]
 intro x hx
 obtain ⟨j, hj⟩ := List.getElem?_of_mem hx
 have := h j x hj
 simp; omega
theorem zwr {t : List Nd} {j : Nat} {x : Nd} (h : t[j]? = some x) (hp : 1048576 < x.pos) : far t = true := by
 unfold far
 rw [List.any_eq_true]
 exact ⟨x, lme h, decide_eq_true hp⟩
theorem zkb (s : ByteArray) (hs : s.size <= 20000) (w : World) (he : err s = 0) {t0 : List Nd} (hx : ex (place s) (A.tks s) = .ok t0 []) : Calls Tryz.prog 9 #[.string s] w (A.ParsePost (told (.ok t0 [])) w) := by
 have hL : (toks s).length <= 20000 := ltr (zes s) hs
 have h := zoc (l := A.tks s) (E := place s) (m := (toks s).length) (by rw [A.tks, List.length_map]; exact hL)
 rw [hx] at h
 have h1 : exprQ 101 ⟨A.tks s, place s, 0, 0, 0, (toks s).length⟩ = some (t0, ⟨[], place s, 0, 0, 0, (toks s).length⟩) := h
 have HA := jj (zft (B := (w.alloc (.cells #[.slice none 0 0] 25)).heap.size) s (by omega) (w.alloc (.cells #[.slice none 0 0] 25)) (lrf _))
 have hz : (err s != 0) = false := by simpa using he
 have hcl := zxo (by rw [A.tks, List.length_map]; omega) (fun x hx => by obtain ⟨y, hy, rfl⟩ := List.mem_map.1 hx; have := (zg2 s y hy).1; show y.1.t.size <= _; omega) hx
 have hlen : t0.length <= 40000 := by
  have h3 := (zkn hx).2.2
  rw [A.tks, List.length_map] at h3
  omega
 have HM : Hid (∀ W v, Nodes W.heap.size W v t0 -> Calls Tryz.prog 22 #[.agg #[v]] W fun e w' => e = .returned (.int .i64 (may t0)) /\ Below W.heap.size W w') := jj fun W v hv => zs3 t0 v W hv fun x hx => A.zgv (hcl x hx)
 have HFY : Hid (far t0 = true -> told (.ok t0 []) = ([], 0, 7)) := jj fun hf => by unfold told; simp [hf]
 have HFN : Hid (far t0 = false -> told (.ok t0 []) = if may t0 = 0 then (t0, 0, 0) else ([], 0, may t0)) := jj fun hf => by unfold told; simp [hf]
 obtain ⟨R, hR⟩ : ∃ R, told (.ok t0 []) = R := ⟨_, rfl⟩
 rw [hR] at HFY HFN ⊢
 obtain ⟨mt, hmt⟩ : ∃ mt, may t0 = mt := ⟨_, rfl⟩
 rw [hmt] at HM HFN
 obtain ⟨n, hn⟩ : ∃ n, (toks s).length = n := ⟨_, rfl⟩
 obtain ⟨m, hm⟩ : ∃ m, t0.length = m := ⟨_, rfl⟩
 rw [hm] at hlen
 have HMM := jj hm
 have HX : Hid (∀ W rb, Qs (rb + 2) (rb + 1) rb W ⟨A.tks s, place s, 0, 0, 0, n⟩ -> Calls Tryz.prog 30 #[.pointer (some ⟨rb + 1, 0, none⟩)] W (TP (rb + 2) (rb + 1) rb W t0 ⟨[], place s, 0, 0, 0, n⟩)) := jj fun W rb hW => zhp _ _ _ 101 W _ _ _ hW (by rw [<- hn]; exact h1)
 have HL := jj hL
 have HN := jj hn
 clear he hx h h1 hL hn hcl hR hmt hm
 go_enter Tryz.func9, Tryz.ntmps9
 go_wp2_with (first | (go_at_call 29; refine HA.out.mono ?_; rintro e w1 ⟨v, rfl, hrow, hb1⟩; obtain ⟨A, cp, rfl⟩ := zcq hrow; have HS := jj (Stg.made (n := place s) hb1 hrow (by have := HL.out; omega)); rw [HN.out] at HS ⊢; clear hb1 hrow) | (go_at_call 30; refine (HX.out _ _ HS.out.st).mono ?_; rintro e w4 ⟨A4, c4, rfl, t4, q4, k4⟩; rw [HMM.out] at t4 ⊢; have hba : Below w4.heap.size w4 (w4.alloc (.cells #[.slice A4 m c4] 25)) := baw w4 _; have h4a := (HS.out.next q4 k4).below hba; obtain ⟨c0, c1, c2, c3, cf⟩ := h4a.st.pcells; obtain ⟨k, d1, dk⟩ := zp4 h4a.st; have hlt : (n : Int) <= (k : Int) := (by simp only [List.length_nil] at dk; omega); have r0 := zaa h4a.r0 0; have f0 := zac h4a.r0 0; have T4 := jj ((t4.below hba).low (B := w.heap.size + 1) (by have := HS.out.hr; have := HS.out.st.hB; omega)); have g9 := zaa (anw w4 (.cells #[.slice A4 m c4] 25)) 0; have H4 := jj h4a; clear q4 k4 t4 cf h4a dk hba))
 obtain ⟨A', c', e', hc', _, hq'⟩ := T4.out.nodes
 rw [HMM.out] at e'
 simp only [Value.slice.injEq, true_and] at e'
 obtain ⟨rfl, rfl⟩ := e'
 have HQ := jj hq'
 clear hq' hc'
 go_loopw [10] (fun i wr => ∃ q : Nat, i = .int .i64 (q : Int) /\ q <= m /\ wr = w4.alloc (.cells #[.slice A4 m c4] 25) /\ Hid (∀ (j : Nat) x, j < q -> t0[j]? = some x -> x.pos <= 1048576)) (fun i _ => m - (intOf i).toNat)
 case atStart => exact ⟨0, rfl, Nat.zero_le _, rfl, jj fun j x hj => by omega⟩
 case round =>
  obtain ⟨q, rfl, hq, rfl, HP⟩ := hrel
  by_cases hlq : q < m
  ·obtain ⟨b, o, rfl, hb, hf⟩ := HQ.out (by rw [HMM.out]; omega)
   obtain ⟨x, hx⟩ : ∃ x, t0[q]? = some x := ⟨_, List.getElem?_eq_getElem (by rw [HMM.out]; exact hlq)⟩
   obtain ⟨fv, hfl, _, _, _, _, _, _, _, _, m8⟩ := hf q x hx
   obtain ⟨xp, hxp⟩ : ∃ xp, x.pos = xp := ⟨_, rfl⟩
   rw [hxp] at m8
   by_cases hp : 1048576 < xp
   ·have hr := HFY.out (zwr hx (by rw [hxp]; exact hp))
    subst hr
    clear hfl hf
    go_wp2
    refine bodyPost_ret (res9 _ _ w.heap.size none 0 0 _ _ rfl rfl rfl (by go_simp)) rfl ⟨_, [], rfl, rfl, zcp _ _, ?_⟩
    first
     | exact H4.out.bl.setCell (p := ⟨w.heap.size, 0, none⟩) (lrf _) _
     | exact H4.out.bl
   ·have HP2 : Hid (∀ (j : Nat) x, j < q + 1 -> t0[j]? = some x -> x.pos <= 1048576) := jj fun j z hj hz' => by
     by_cases hjq : j = q
     ·subst hjq
      rw [hx] at hz'
      cases hz'
      omega
     ·exact HP.out j z (by omega) hz'
    clear hfl hf hx hxp
    go_wp2
    go_roundw
    case rel => exact ⟨q + 1, by go_num, by omega, trivial, HP2⟩
    case measure => simp [intOf]; omega
  ·obtain rfl : q = m := by omega
   have hr := HFN.out (zz8 fun j x hj => HP.out j x (by have := (lge.1 hj).1; have := HMM.out; omega) hj)
   have HMV := jj (HM.out _ _ T4.out.nodes)
   by_cases h0 : mt = 0
   ·rw [if_pos h0] at hr
    subst hr
    subst h0
    go_wp2_with (go_at_call 22; refine HMV.out.mono ?_; rintro e w6 ⟨rfl, hb6⟩; have h6a := H4.out.below hb6; have r1 := zaa h6a.r0 0; have f1 := zac h6a.r0 0; have g10 := (hb6.cell (p := ⟨w4.heap.size, 0, none⟩) (by simp)).trans g9; have T6 := jj (T4.out.below hb6); have H6 := jj h6a; clear hb6 h6a)
    obtain ⟨ps, p1, p2⟩ := (T6.out.set (k := w.heap.size) (j := 0) (.slice A4 t0.length c4) (Nat.lt_succ_self _)).low (Nat.le_succ _)
    rw [HMM.out] at p2
    exact bodyPost_ret (res9 _ _ w.heap.size A4 _ c4 _ _ rfl rfl rfl (by go_simp)) rfl ⟨_, ps, rfl, p1, p2, H6.out.bl.setCell (p := ⟨w.heap.size, 0, none⟩) (lrf _) _⟩
   ·rw [if_neg h0] at hr
    subst hr
    have hz2 : (mt != 0) = true := by simpa using h0
    clear h0
    go_wp2_with (go_at_call 22; refine HMV.out.mono ?_; rintro e w6 ⟨rfl, hb6⟩; have h6a := H4.out.below hb6; have r1 := zaa h6a.r0 0; have f1 := zac h6a.r0 0; have H6 := jj h6a; clear hb6 h6a)
    refine bodyPost_ret (res9 _ _ w.heap.size none 0 0 _ _ rfl rfl rfl (by go_simp)) rfl ⟨_, [], rfl, rfl, zcp _ _, ?_⟩
    first
     | exact H6.out.bl.setCell (p := ⟨w.heap.size, 0, none⟩) (lrf _) _
     | exact H6.out.bl
theorem zfe (s : ByteArray) (hs : s.size <= 20000) (w : World) : Calls Tryz.prog 9 #[.string s] w (A.ParsePost (A.asked s) w) := by
 unfold A.asked
 by_cases he : err s = 0
 ·rw [if_pos he]
  unfold whole
  cases hx : ex (place s) (A.tks s) with
  | bad e p => exact zmh s hs w he hx
  | ok t r =>
   cases r with
   | nil => exact zkb s hs w he hx
   | cons y r => exact zka s hs w he hx
 ·rw [if_neg he]
  exact zl1 s hs w he
open T Go.RowKit
open A (asked zd1 ziu zji ziv)
theorem zrn (s t : ByteArray) (hs : s.size <= 140737488351232) (ht : s.extract 0 (min (s.size : Int) 1500).toNat = t) (hts : t.size <= 1500) (W : World) (hO : Hid (L.On W.heap.size W)) (T : List Nd) (p e : Int) (ha : asked t = (T, p, e)) (hl : T.length <= 1000000) (hsl : ∀ x ∈ T, x.l.length <= 1000000) :
  Calls Tryz.prog 3 #[.string s] W fun x w' => x = .returned (.bool true) /\ Below W.heap.size W w' := by
 obtain ⟨n, hTn⟩ : ∃ n, T.length = n := ⟨_, rfl⟩
 have HS := jj hs
 have HT := jj ht
 have hof : ∀ (w1 : World) (x : Ending) (w' : World), A.ParsePost (asked t) w1 x w' -> ∃ v c, x = .returned (.tuple #[.agg #[.slice v n c], .int .i64 p, .int .i64 e]) /\ Nodes w'.heap.size w' (.slice v n c) T /\ Below w1.heap.size w1 w' := by
  rintro w1 x w' ⟨v, ps, rfl, h1, h2, h3⟩
  rw [ha] at h1 ⊢
  have hh := zdg h2
  have hlp := congrArg List.length h1
  rw [List.length_map] at hlp
  obtain ⟨A, c, rfl⟩ := L.zcq h2.1
  rw [h1] at hh
  rw [show ps.length = n by rw [<- hTn]; exact hlp] at hh ⊢
  exact ⟨A, c, rfl, hh, h3⟩
 have HP : Hid (∀ w1, Below W.heap.size W w1 -> Calls Tryz.prog 8 #[.string t] w1 fun x w' => ∃ v c, x = .returned (.tuple #[.agg #[.slice v n c], .int .i64 p, .int .i64 e]) /\ Nodes w'.heap.size w' (.slice v n c) T /\ Below w1.heap.size w1 w') := jj fun w1 hb => by
  have ho := (hO.out.on hb).up hb.size
  exact (zd1 t (by omega) w1 ho ho.1).mono fun x w' hh => hof w1 x w' hh
 have HR : Hid (∀ w1, Calls Tryz.prog 9 #[.string t] w1 fun x w' => ∃ v c, x = .returned (.tuple #[.agg #[.slice v n c], .int .i64 p, .int .i64 e]) /\ Nodes w'.heap.size w' (.slice v n c) T /\ Below w1.heap.size w1 w') := jj fun w1 =>
  (zfe t (by omega) w1).mono fun x w' hh => hof w1 x w' hh
 have HE : Hid (∀ w1 v u, Nodes w1.heap.size w1 v T -> Nodes w1.heap.size w1 u T -> Calls Tryz.prog 10 #[.agg #[v], .agg #[u]] w1 fun x w' => x = .returned (.bool true) /\ Below w1.heap.size w1 w') := jj fun w1 v u hv hu => ziv T v u w1 hv hu hl hsl
 have HW : Hid (∀ w1, Below W.heap.size W w1 -> Calls Tryz.prog 11 #[] w1 fun x w' => x = .returned (.bool true) /\ Below w1.heap.size w1 w') := jj fun w1 hb => ziu w1 ((hO.out.on hb).up hb.size)
 have HB0 := jj (br W.heap.size W)
 clear ha ht hs hsl hTn hof hO
 go_enter Tryz.func3, Tryz.ntmps3
 go_wp2_with (first | (go_at_call 7; refine (zji HT.out HS.out _).mono ?_; rintro x w' ⟨rfl, rfl⟩) | (go_at_call 8; refine (HP.out _ HB0.out).mono ?_; rintro x w2 ⟨A, c, rfl, hv, hb2⟩; have H2 := jj hb2; have B3 := jj (hb2.alloc hb2.size (.cells #[.slice A n c] 25)); have N3 := jj ((hv.below (baw w2 (.cells #[.slice A n c] 25))).mono ((baw w2 (.cells #[.slice A n c] 25)).size)); clear hb2 hv) | (go_at_call 9; refine (HR.out _).mono ?_; rintro x w4 ⟨C, cc, rfl, hu, hb4⟩; have ce := (hb4.cell (p := ⟨w2.heap.size, 0, none⟩) (by simp)).trans (zaa (anw w2 (.cells #[.slice A n c] 25)) 0); have B4 := jj (B3.out.trans (hb4.mono B3.out.size)); have N4 := jj ((N3.out.below hb4).mono hb4.size); have hlt4 : w2.heap.size < w4.heap.size := (lltl (by simp) hb4.size); have B5 := jj (B4.out.alloc B4.out.size (.cells #[.slice C n cc] 25)); have ce5 := (baw w4 (.cells #[.slice C n cc] 25)).cell (p := ⟨w2.heap.size, 0, none⟩) hlt4 |>.trans ce; have N5 := jj ((N4.out.below (baw w4 (.cells #[.slice C n cc] 25))).mono ((baw w4 (.cells #[.slice C n cc] 25)).size)); have U5 := jj ((hu.below (baw w4 (.cells #[.slice C n cc] 25))).mono ((baw w4 (.cells #[.slice C n cc] 25)).size)); clear hb4 hu) | (go_at_call 10; refine (HE.out _ _ _ N5.out U5.out).mono ?_; rintro x w6 ⟨rfl, hb6⟩; have B6 := jj (B5.out.trans (hb6.mono B5.out.size)); clear hb6) | (go_at_call 11; refine (HW.out _ B6.out).mono ?_; rintro x w7 ⟨rfl, hb7⟩; have B7 := jj (B6.out.trans (hb7.mono B6.out.size)); clear hb7))
 go_ret
 exact ⟨rfl, B7.out⟩
theorem zmv {r : Rs} (h : ∀ t m, r = .ok t m -> slim t /\ t.length <= 1000000) : ∃ T p e, told r = (T, p, e) /\ T.length <= 1000000 /\ ∀ x ∈ T, x.l.length <= 1000000 := by
 cases r with
 | bad e p => exact ⟨[], p, e, rfl, by simp, fun x hx => by cases hx⟩
 | ok t m =>
  obtain ⟨h1, h2⟩ := h t m rfl
  unfold told
  simp only
  by_cases hf : far t = true
  ·rw [if_pos hf]; exact ⟨[], 0, 7, rfl, by simp, fun x hx => by cases hx⟩
  rw [if_neg hf]
  by_cases hm : may t = 0
  ·rw [if_pos hm]; exact ⟨t, 0, 0, rfl, h2, fun x hx => by have := h1 x hx; omega⟩
  ·rw [if_neg hm]; exact ⟨[], 0, _, rfl, by simp, fun x hx => by cases hx⟩
theorem zkg (s : ByteArray) (hs : s.size <= 200000) : ∃ T p e, asked s = (T, p, e) /\ T.length <= 1000000 /\ ∀ x ∈ T, x.l.length <= 1000000 := by
 unfold asked
 by_cases he : L.err s = 0
 ·rw [if_pos he]
  refine zmv fun t m hr => ?_
  unfold whole at hr
  have hl := L.zes s
  have ht : (A.tks s).length = (L.toks s).length := by rw [A.tks, List.length_map]
  split at hr
  ·cases hr
  ·rename_i h1
   cases hr
   obtain ⟨_, h2, h3⟩ := zkn h1
   exact ⟨h2, by omega⟩
  ·cases hr
 ·rw [if_neg he]; exact ⟨[], _, _, rfl, by simp, fun x hx => by cases hx⟩
theorem parsetexts_any (s : ByteArray) (hs : s.size <= 140737488351232) (W : World) (hO : L.On W.heap.size W) :
  Calls Tryz.prog 3 #[.string s] W fun x w' => x = .returned (.bool true) /\ Below W.heap.size W w' := by
 obtain ⟨t, ht⟩ : ∃ t, s.extract 0 (min (s.size : Int) 1500).toNat = t := ⟨_, rfl⟩
 have hts : t.size <= 1500 := by rw [<- ht, L.size_extract]; omega
 obtain ⟨T, p, e, h1, h2, h3⟩ := zkg t (by omega)
 exact zrn s t hs ht hts W (jj hO) T p e h1 h2 h3
end Go.Proofs.YtjakeidbajkdcaaGreatDoor.B
