/- Joined by program. -/
import Derived.Test.YtjakeidbajkdcaaGreatDoorG46
import Derived.Test.YtjakeidbajkdcaaGreatDoorG45
import Derived.Deep.RegionHeld3
set_option maxRecDepth 100000
set_option maxHeartbeats 16000000
namespace Go.Proofs.YtjakeidbajkdcaaGreatDoor.B
open T Go.RowKit Go.Shelf
open A (Fr)
attribute [local go_sem] A.zat A.zau A.zas
section
variable {B pb rb : Nat} {w w' W : World} {s s' : RS}
theorem res208 (tmps : Array Value) (W : World) (p : Nat) (A : Option Addr) (n c : Nat) (h2 : tmps[4]?.getD undef = .pointer (some ⟨p, 0, none⟩)) (hb : W.cell? ⟨p, 0, none⟩ = some (.slice A n c)) :
  Sem.run Tryz.prog (results Tryz.f208 tmps) W = .ok (.agg #[.slice A n c]) W := by
 simp [results, Tryz.results208, go_sem, h2, hb]
theorem zhd {p : Int} {tf : List Nd} {sf : RS} (h : Qs B pb rb w s) (hr : s.on 7 zbl = true) (ho : joinO (mk 11 p) [] s.nx = some (tf, sf)) : Calls Tryz.prog 208 #[.pointer (some ⟨pb, 0, none⟩), .int .i64 p] w (TP B pb rb w tf sf) := by
 obtain ⟨hJ, hT, rfl⟩ := zam ho
 have HR := jj (zea hr)
 have HM := jj hr
 have H0 := jj (Rc.start h 11 p)
 have HJN : Hid (∀ W, Calls Tryz.prog 98 #[.agg #[.int .i64 11, .int .i64 0, .int .i64 0, .int .i64 0, .int .i64 0, .string ⟨#[]⟩, .string ⟨#[]⟩, .slice none 0 0, .int .i64 p], .slice none 0 0] W (NPost tf W)) := jj fun W => by rw [hT]; exact zfi rfl hJ W
 clear h hr ho hJ hT
 go_enter Tryz.func208, Tryz.ntmps208
 go_wp2_with (first | (go_at_call 98; refine (HJN.out _).mono ?_; rintro e w1 ⟨A1, c1, ps, rfl, p1, o1, b1⟩; have H1 := jj (HE.out.below b1); have r2 := zaa H1.out.r2 0; have f2 := zac H1.out.r2 0; have T1 := jj ((NPost.tr p1 o1).low (B := w.heap.size + 1) (by have := HE.out.lt; have := HE.out.hk; omega)); clear p1 o1 b1) | (go_at_call 100; refine (za8 (l := zbl) H0.out.st (zab #[125])).mono ?_; rintro e w4 ⟨rfl, q4, k4⟩; rw [HR.out] at q4; rw [HM.out]; have HEa := H0.out.next q4 k4; obtain ⟨q0, q1, q2, q3, q5, q6, q7, q8, q9⟩ := HEa.facts; have HE := jj HEa; clear q4 k4 HEa))
 exact bodyPost_ret (res208 _ _ w.heap.size A1 _ c1 rfl (by go_simp)) rfl ⟨A1, c1, rfl, H1.out.cel.out T1.out⟩
theorem zib {X : RS -> Ans} (HX0 : Rdz B pb rb 30 X) {p : Int} {tf : List Nd} {sf : RS} (h : Qs B pb rb w s) (hr : s.on 7 zbl = false) (ho : recL X p (s.l.length + 2) [] [] s = some (tf, sf)) : Calls Tryz.prog 208 #[.pointer (some ⟨pb, 0, none⟩), .int .i64 p] w (TP B pb rb w tf sf) := by
 obtain ⟨j0, hj0, hy0, hy1, hy2⟩ := info_parts fldInfo
 obtain ⟨i0, hi0, hz0, hz1, hz2⟩ := info_parts exInfo
 have HX := jj HX0
 have HR := jj (ze3 hr)
 have HM := jj hr
 have H0 := jj (Rc.start h 11 p)
 have HL := jj ho
 clear h hr ho HX0
 go_enter Tryz.func208, Tryz.ntmps208
 go_wp2_with (go_at_call 100; refine (za8 (l := zbl) H0.out.st (zab #[125])).mono ?_; rintro e w4 ⟨rfl, q4, k4⟩; rw [HR.out] at q4; rw [HM.out]; have HE0 := jj (H0.out.next q4 k4); clear q4 k4)
 go_loopg [6] (s.l.length + 2) (fun n s6 wr => ∃ (fs : List Fld) (x : RS) (ts : List (List Nd)) (FA : Option Addr) (m fc g uc : Nat) (vals : List Value), s6 = .slice (some ⟨g, 0, none⟩) (m) uc /\ Hid (fs.length = m) /\ Hid (ts.length = m) /\ Hid (Rc B pb rb w wr x (w.heap.size + 2) 11 p (.slice FA m fc) fs (.slice (some ⟨g, 0, none⟩) (m) uc) (m) vals ts) /\ Hid (recL X p n fs ts x = some (tf, sf)))
 case atStart => exact ⟨[], s, [], none, 0, 0, w.heap.size + 1, 0, [], rfl, jj rfl, jj rfl, HE0, HL⟩
 case round =>
  obtain ⟨fs, x, ts, FA, m, fc, g, uc, vals, rfl, HM1, HMT, HS, HPP⟩ := hrel
  have hzr := HS.out.fr.size
  have hzl := HS.out.lt
  have hzk := HS.out.hk
  have hzB := HS.out.B1
  obtain ⟨c0, c1, c2, c3, cf⟩ := HS.out.st.pcells
  obtain ⟨q0, q1, q2, q3, q4, q5, q6, q7, q8⟩ := HS.out.facts
  clear cf
  have hp := HPP.out
  cases gk with
  | zero => simp [recL] at hp
  | succ k =>
   rw [recL] at hp
   by_cases he : x.err = 0
   ·have hz : (x.err == 0) = true := by simpa using he
    rw [if_pos he] at hp
    by_cases hlen : fs.length < 900
    case neg => rw [if_neg hlen] at hp; cases hp
    rw [if_pos hlen] at hp
    have hm : m < 900 := by have := HM1.out; omega
    obtain ⟨a1, s1, e1, e2⟩ := bind_some hp
    obtain ⟨nm, hnm⟩ : ∃ nm, (x.off 2).1 = nm := ⟨_, rfl⟩
    have HNM := jj hnm
    rw [hnm] at e2
    obtain ⟨t, ht⟩ : ∃ t, x.pk = t := ⟨_, rfl⟩
    have HT := jj ht
    rw [ht] at e1
    have HX1 : Hid (∀ W, Qs B pb rb W (((x.off 2).2.part t fs).must 7 zbg) -> Calls Tryz.prog 30 #[.pointer (some ⟨pb, 0, none⟩)] W (TP B pb rb W a1 s1)) := jj fun W hW => HX.out W _ _ _ hW e1
    have HE2 := jj e2
    clear hp hlen e1 e2 hnm ht he
    by_cases hc : s1.on 7 zb6 = true
    ·have HG := jj (zea hc)
     have HC := jj hc
     have hE := HE2.out
     simp only at hE
     rw [if_pos hc] at hE
     have HE3 := jj hE
     clear hE hc
     go_wp2_with (first | (go_at_call 32; refine (za1 HS.out.st).mono ?_; rintro e w3 ⟨rfl, hb3⟩; rw [HT.out]; have H3 := jj ((HS.out.below hb3).below (baw w3 (.cells #[.int .i64 t.k, .string t.s, .int .i64 t.n, .int .i64 t.p] 63))); have hz3 := hb3.size; clear hb3) | (go_at_call 212; refine (zla H4.out.st t fs FA fc m HM1.out (zcx H4.out.of) (by omega)).mono ?_; rintro e w5 ⟨rfl, q5', k5⟩; have H5 := jj (H4.out.next q5' k5); clear q5' k5) | (go_at_call 96; refine (zfs H3.out.st 2).mono ?_; rintro e w4 ⟨rfl, q4', k4⟩; rw [HNM.out]; have H4a := H3.out.next q4' k4; have g3 := zai k4 H3.out.st (anw w3 (.cells #[.int .i64 t.k, .string t.s, .int .i64 t.n, .int .i64 t.p] 63)) (by omega); have p0 := zaa g3 0; have p1 := zaa g3 1; have p2 := zaa g3 2; have p3 := zaa g3 3; have n7 := zaa H4a.ln 7; have H4 := jj H4a; clear q4' k4 g3 H4a) | (go_at_call 97; refine (zcb (l := zbg) H5.out.st (by decide) (by decide) (zab #[61])).mono ?_; rintro e w6 ⟨rfl, q6', k6⟩; have H6 := jj (H5.out.next q6' k6); clear q6' k6) | (go_at_call 30; refine (HX1.out _ H6.out.st).mono ?_; rintro e w7 ⟨A7, c7, rfl, t7, q7', k7⟩; have hz6 := H6.out.fr.size; have hz7 := ltr hz6 k7.size; have hl7 := lltl H6.out.lt k7.size; have H7 := jj (H6.out.next q7' k7); have T7 := jj t7; have HOW : Hid (∀ o, World.ownsRow (w7.alloc o) (w.heap.size + 1) 25 1 (.slice (some ⟨g, 0, none⟩) (m) uc) (m) vals) := jj fun o => H7.out.ks.alloc o; clear q7' k7 t7) | (at_builtin; refine zah _ rfl _ _ 135 rfl (w.heap.size + 1) 25 i0 (.agg #[.slice none 0 0]) 1 24 Tryz.underlying135 hi0 hz0 hz1 hz2 rfl (by decide) _ (m) _ rfl (HOW.out _) ⟨w7.heap.size, 0, none⟩ 1 1 [.slice A7 a1.length c7] rfl rfl (fun j u hj => zaj w7 25 [.slice A7 a1.length c7] w7.heap.size rfl j u hj) (fun u hu => by rw [List.mem_singleton.1 hu]; rfl) (by unfold maxLen; omega) (by omega) (by simp; omega) ?_; intro v8 w8 hown8 hgrow8 hpl8; obtain ⟨g8, c8, rfl⟩ := ownsRow_succ hown8; have H8a := H6.out.kid H7.out T7.out hown8 hgrow8 hpl8; have y7 := zaa H8a.ln 7; have hz8 := H8a.fr.size; have hl8 := H8a.lt; have H8 := jj H8a; have HOF : Hid (∀ o, World.ownsRow (w8.alloc o) (w.heap.size + 1) 97 3 (.slice FA m fc) m (fCells fs)) := jj (fun o => by have := World.ownsRow.alloc H8a.of o; rwa [HM1.out] at this); clear hown8 hgrow8 hpl8 H8a) | (at_builtin; refine zah _ rfl _ _ 35 rfl (w.heap.size + 1) 97 j0 (.agg #[.string ⟨#[]⟩, .string ⟨#[]⟩, .int .i64 0]) 3 40 Tryz.underlying35 hj0 hy0 hy1 hy2 rfl (by decide) _ m _ rfl (HOF.out _) ⟨w8.heap.size, 0, none⟩ 1 1 [.string nm, .string ⟨#[]⟩, .int .i64 0] rfl rfl (fun j u hj => zaj w8 97 [.string nm, .string ⟨#[]⟩, .int .i64 0] w8.heap.size rfl j u hj) (one3 _ _ _) (by unfold maxLen; omega) (by omega) (by simp; omega) ?_; intro v9 w9 hown9 hgrow9 hpl9; obtain ⟨g9, c9, rfl⟩ := ownsRow_succ hown9; have HD0 := H8.out.push (f := fld nm ⟨#[]⟩) (by rw [HM1.out]; exact hown9) hgrow9 hpl9; have d7 := zaa HD0.1 7; have fz7 := zac HD0.1 7; have H9 := jj HD0.2; clear hown9 hgrow9 hpl9 HD0) | (go_at_call 100; refine (za8 (l := zb6) H9.out.st (zab #[44])).mono ?_; rintro e w10 ⟨rfl, q10, k10⟩; rw [HG.out] at q10; rw [HC.out]; have H10 := jj (H9.out.next q10 k10); clear q10 k10))
     go_roundg k
     case measure => omega
     case rel => exact ⟨fs ++ [fld nm ⟨#[]⟩], s1.nx, ts ++ [a1], some ⟨g9, 0, none⟩, m + 1, c9, g8, c8, vals ++ [.slice A7 a1.length c7], rfl, jj (by rw [List.length_append, HM1.out]; rfl), jj (by rw [List.length_append, HMT.out]; rfl), H10, HE3⟩
    ·have hc' := beff.2 hc
     have HG := jj (ze3 hc')
     have HC := jj hc'
     have hE := HE2.out
     simp only at hE
     rw [if_neg hc] at hE
     obtain ⟨hJ, hT, hS⟩ := zam hE
     subst hS
     have HJN : Hid (∀ (W : World) (FA : Option Addr) (fc g uc : Nat) (vals : List Value), Rc B pb rb w W (s1.must 7 zbl) (w.heap.size + 2) 11 p (.slice FA (m + 1) fc) (fs ++ [fld nm ⟨#[]⟩]) (.slice (some ⟨g, 0, none⟩) (m + 1) uc) (m + 1) vals (ts ++ [a1]) -> Calls Tryz.prog 98 #[.agg #[.int .i64 11, .int .i64 0, .int .i64 0, .int .i64 0, .int .i64 0, .string ⟨#[]⟩, .string ⟨#[]⟩, .slice FA (m + 1) fc, .int .i64 p], .slice (some ⟨g, 0, none⟩) (m + 1) uc] W (NPost tf W)) := jj fun W FA fc g uc vals h => by rw [hT]; exact Rc.join h (y := { mk 11 p with l := fs ++ [fld nm ⟨#[]⟩] }) rfl rfl (by rw [List.length_append, HM1.out]; rfl) rfl hJ
     clear hE hc hc' hJ hT HE2
     go_wp2_with (first | (go_at_call 98; refine (HJN.out _ _ _ _ _ _ H11.out).mono ?_; rintro e w12 ⟨A12, c12, ps, rfl, p12, o12, b12⟩; have H12 := jj (H11.out.below b12); have r2 := zaa H12.out.r2 0; have f2 := zac H12.out.r2 0; have T12 := jj ((NPost.tr p12 o12).low (B := w.heap.size + 1) (by have := H11.out.lt; have := H11.out.hk; omega)); clear p12 o12 b12) | (go_at_call 97; refine (zcb (l := zbl) H10.out.st (by decide) (by decide) (zab #[125])).mono ?_; rintro e w11 ⟨rfl, q11, k11⟩; have H11a := H10.out.next q11 k11; obtain ⟨z0, z1, z2, z3, z4, z5, z6, z7, z8⟩ := H11a.facts; have H11 := jj H11a; clear q11 k11 H11a) | (go_at_call 32; refine (za1 HS.out.st).mono ?_; rintro e w3 ⟨rfl, hb3⟩; rw [HT.out]; have H3 := jj ((HS.out.below hb3).below (baw w3 (.cells #[.int .i64 t.k, .string t.s, .int .i64 t.n, .int .i64 t.p] 63))); have hz3 := hb3.size; clear hb3) | (go_at_call 212; refine (zla H4.out.st t fs FA fc m HM1.out (zcx H4.out.of) (by omega)).mono ?_; rintro e w5 ⟨rfl, q5', k5⟩; have H5 := jj (H4.out.next q5' k5); clear q5' k5) | (go_at_call 96; refine (zfs H3.out.st 2).mono ?_; rintro e w4 ⟨rfl, q4', k4⟩; rw [HNM.out]; have H4a := H3.out.next q4' k4; have g3 := zai k4 H3.out.st (anw w3 (.cells #[.int .i64 t.k, .string t.s, .int .i64 t.n, .int .i64 t.p] 63)) (by omega); have p0 := zaa g3 0; have p1 := zaa g3 1; have p2 := zaa g3 2; have p3 := zaa g3 3; have n7 := zaa H4a.ln 7; have H4 := jj H4a; clear q4' k4 g3 H4a) | (go_at_call 97; refine (zcb (l := zbg) H5.out.st (by decide) (by decide) (zab #[61])).mono ?_; rintro e w6 ⟨rfl, q6', k6⟩; have H6 := jj (H5.out.next q6' k6); clear q6' k6) | (go_at_call 30; refine (HX1.out _ H6.out.st).mono ?_; rintro e w7 ⟨A7, c7, rfl, t7, q7', k7⟩; have hz6 := H6.out.fr.size; have hz7 := ltr hz6 k7.size; have hl7 := lltl H6.out.lt k7.size; have H7 := jj (H6.out.next q7' k7); have T7 := jj t7; have HOW : Hid (∀ o, World.ownsRow (w7.alloc o) (w.heap.size + 1) 25 1 (.slice (some ⟨g, 0, none⟩) (m) uc) (m) vals) := jj fun o => H7.out.ks.alloc o; clear q7' k7 t7) | (at_builtin; refine zah _ rfl _ _ 135 rfl (w.heap.size + 1) 25 i0 (.agg #[.slice none 0 0]) 1 24 Tryz.underlying135 hi0 hz0 hz1 hz2 rfl (by decide) _ (m) _ rfl (HOW.out _) ⟨w7.heap.size, 0, none⟩ 1 1 [.slice A7 a1.length c7] rfl rfl (fun j u hj => zaj w7 25 [.slice A7 a1.length c7] w7.heap.size rfl j u hj) (fun u hu => by rw [List.mem_singleton.1 hu]; rfl) (by unfold maxLen; omega) (by omega) (by simp; omega) ?_; intro v8 w8 hown8 hgrow8 hpl8; obtain ⟨g8, c8, rfl⟩ := ownsRow_succ hown8; have H8a := H6.out.kid H7.out T7.out hown8 hgrow8 hpl8; have y7 := zaa H8a.ln 7; have hz8 := H8a.fr.size; have hl8 := H8a.lt; have H8 := jj H8a; have HOF : Hid (∀ o, World.ownsRow (w8.alloc o) (w.heap.size + 1) 97 3 (.slice FA m fc) m (fCells fs)) := jj (fun o => by have := World.ownsRow.alloc H8a.of o; rwa [HM1.out] at this); clear hown8 hgrow8 hpl8 H8a) | (at_builtin; refine zah _ rfl _ _ 35 rfl (w.heap.size + 1) 97 j0 (.agg #[.string ⟨#[]⟩, .string ⟨#[]⟩, .int .i64 0]) 3 40 Tryz.underlying35 hj0 hy0 hy1 hy2 rfl (by decide) _ m _ rfl (HOF.out _) ⟨w8.heap.size, 0, none⟩ 1 1 [.string nm, .string ⟨#[]⟩, .int .i64 0] rfl rfl (fun j u hj => zaj w8 97 [.string nm, .string ⟨#[]⟩, .int .i64 0] w8.heap.size rfl j u hj) (one3 _ _ _) (by unfold maxLen; omega) (by omega) (by simp; omega) ?_; intro v9 w9 hown9 hgrow9 hpl9; obtain ⟨g9, c9, rfl⟩ := ownsRow_succ hown9; have HD0 := H8.out.push (f := fld nm ⟨#[]⟩) (by rw [HM1.out]; exact hown9) hgrow9 hpl9; have d7 := zaa HD0.1 7; have fz7 := zac HD0.1 7; have H9 := jj HD0.2; clear hown9 hgrow9 hpl9 HD0) | (go_at_call 100; refine (za8 (l := zb6) H9.out.st (zab #[44])).mono ?_; rintro e w10 ⟨rfl, q10, k10⟩; rw [HG.out] at q10; rw [HC.out]; have H10 := jj (H9.out.next q10 k10); clear q10 k10))
     exact bodyPost_ret (res208 _ _ w.heap.size A12 _ c12 rfl (by go_simp)) rfl ⟨A12, c12, rfl, H12.out.cel.out T12.out⟩
   ·have hz : (x.err == 0) = false := by simpa using he
    rw [if_neg he] at hp
    obtain ⟨hJ, hT, hS⟩ := zam hp
    subst hS
    have HJN : Hid (∀ (W : World) (FA : Option Addr) (fc g uc : Nat) (vals : List Value), Rc B pb rb w W sf (w.heap.size + 2) 11 p (.slice FA (m) fc) (fs) (.slice (some ⟨g, 0, none⟩) (m) uc) (m) vals (ts) -> Calls Tryz.prog 98 #[.agg #[.int .i64 11, .int .i64 0, .int .i64 0, .int .i64 0, .int .i64 0, .string ⟨#[]⟩, .string ⟨#[]⟩, .slice FA (m) fc, .int .i64 p], .slice (some ⟨g, 0, none⟩) (m) uc] W (NPost tf W)) := jj fun W FA fc g uc vals h => by rw [hT]; exact Rc.join h (y := { mk 11 p with l := fs }) rfl rfl HM1.out rfl hJ
    clear hp hJ hT he
    go_wp2_with (go_at_call 98; refine (HJN.out _ _ _ _ _ _ HS.out).mono ?_; rintro e w12 ⟨A12, c12, ps, rfl, p12, o12, b12⟩; have H12 := jj (HS.out.below b12); have r2 := zaa H12.out.r2 0; have f2 := zac H12.out.r2 0; have T12 := jj ((NPost.tr p12 o12).low (B := w.heap.size + 1) (by have := HS.out.lt; have := HS.out.hk; omega)); clear p12 o12 b12)
    exact bodyPost_ret (res208 _ _ w.heap.size A12 _ c12 rfl (by go_simp)) rfl ⟨A12, c12, rfl, H12.out.cel.out T12.out⟩
theorem z1d {X : RS -> Ans} (HX : Rdz B pb rb 30 X) : Rdp B pb rb 208 (recR X) := by
 intro w s p tf sf h ho
 unfold recR at ho
 cases hr : s.on 7 zbl with
 | true => rw [hr, if_pos rfl] at ho; exact zhd h hr ho
 | false => rw [hr, if_neg (by decide)] at ho; exact zib HX h hr ho
end
open T Go.RowKit Go.Shelf
open A (Fr)
attribute [local go_sem] A.zat A.zau A.zas
section
variable {B pb rb : Nat} {w w' W : World} {s s' : RS}
theorem res209 (tmps : Array Value) (W : World) (p : Nat) (A : Option Addr) (n c : Nat) (h2 : tmps[4]?.getD undef = .pointer (some ⟨p, 0, none⟩)) (hb : W.cell? ⟨p, 0, none⟩ = some (.slice A n c)) :
  Sem.run Tryz.prog (results Tryz.f209 tmps) W = .ok (.agg #[.slice A n c]) W := by
 simp [results, Tryz.results209, go_sem, h2, hb]
theorem z1w {X : RS -> Ans} (HX0 : Rdz B pb rb 30 X) : Rdp B pb rb 209 (casR X) := by
 intro w s p tf sf h ho
 obtain ⟨j0, hj0, hy0, hy1, hy2⟩ := info_parts fldInfo
 obtain ⟨i0, hi0, hz0, hz1, hz2⟩ := info_parts exInfo
 unfold casR at ho
 obtain ⟨a0, s0, h1, h2⟩ := bind_some ho
 have HX := jj HX0
 have HC0 := jj (Cel.made h)
 have HX00 := jj (HX0 _ _ _ _ HC0.out.st h1)
 have HL := jj h2
 clear h ho HX0 h1 h2
 go_enter Tryz.func209, Tryz.ntmps209
 go_wp2_with (first | (go_at_call 97; refine (zcb (l := w_of) H1.out.st (by decide) (by decide) (zab #[111, 102])).mono ?_; rintro e w5 ⟨rfl, q5, k5⟩; have HE0 := jj (H1.out.next q5 k5); clear q5 k5) | (go_at_call 30; refine HX00.out.mono ?_; rintro e w1 ⟨A1, c1, rfl, t1, q1, k1⟩; have H1 := jj (Rc.start1 HC0.out t1 q1 k1 14 p); clear t1 q1 k1))
 go_loopg [6] ((s0.must 1 w_of).l.length + 2) (fun n s6 wr => ∃ (fs : List Fld) (x : RS) (ts : List (List Nd)) (FA : Option Addr) (m fc g uc : Nat) (vals : List Value), s6 = .slice (some ⟨g, 0, none⟩) (m + 1) uc /\ Hid (fs.length = m) /\ Hid (ts.length = m + 1) /\ Hid (Rc B pb rb w wr x (w1.heap.size + 1) 14 p (.slice FA m fc) fs (.slice (some ⟨g, 0, none⟩) (m + 1) uc) (m + 1) vals ts) /\ Hid (casL X p n fs ts x = some (tf, sf)))
 case atStart => exact ⟨[], _, [a0], none, 0, 0, w1.heap.size, 1, [.slice A1 a0.length c1], rfl, jj rfl, jj rfl, HE0, HL⟩
 case round =>
  obtain ⟨fs, x, ts, FA, m, fc, g, uc, vals, rfl, HM1, HMT, HS, HPP⟩ := hrel
  have hzr := HS.out.fr.size
  have hzl := HS.out.lt
  have hzk := HS.out.hk
  have hzB := HS.out.B1
  obtain ⟨c0, c1, c2, c3, cf⟩ := HS.out.st.pcells
  obtain ⟨q0, q1, q2, q3, q4, q5, q6, q7, q8⟩ := HS.out.facts
  clear cf
  have hp := HPP.out
  cases gk with
  | zero => simp [casL] at hp
  | succ k =>
   rw [casL] at hp
   by_cases he : x.err = 0
   ·have hz : (x.err == 0) = true := by simpa using he
    rw [if_pos he] at hp
    by_cases hlen : fs.length < 900
    case neg => rw [if_neg hlen] at hp; cases hp
    rw [if_pos hlen] at hp
    have hm : m < 900 := by have := HM1.out; omega
    obtain ⟨a1, s1, e1, e2⟩ := bind_some hp
    obtain ⟨nm, hnm⟩ : ∃ nm, (x.off 3).1 = nm := ⟨_, rfl⟩
    have HNM := jj hnm
    rw [hnm] at e2
    obtain ⟨t, ht⟩ : ∃ t, x.pk = t := ⟨_, rfl⟩
    have HT := jj ht
    rw [ht] at e1 e2
    obtain ⟨vr, hvr⟩ : ∃ vr, (((x.off 3).2.part t fs).off 2).1 = vr := ⟨_, rfl⟩
    have HVR := jj hvr
    rw [hvr] at e2
    have HX1 : Hid (∀ W, Qs B pb rb W ((((x.off 3).2.part t fs).off 2).2.must 7 zbc) -> Calls Tryz.prog 30 #[.pointer (some ⟨pb, 0, none⟩)] W (TP B pb rb W a1 s1)) := jj fun W hW => HX.out W _ _ _ hW e1
    have HE2 := jj e2
    clear hp hlen e1 e2 hnm ht he hvr
    by_cases hc : s1.on 7 zej = true
    ·have HG := jj (zea hc)
     have HC := jj hc
     have hE := HE2.out
     simp only at hE
     rw [if_pos hc] at hE
     have HE3 := jj hE
     clear hE hc
     go_wp2_with (first | (go_at_call 32; refine (za1 HS.out.st).mono ?_; rintro e w3 ⟨rfl, hb3⟩; rw [HT.out]; have H3 := jj ((HS.out.below hb3).below (baw w3 (.cells #[.int .i64 t.k, .string t.s, .int .i64 t.n, .int .i64 t.p] 63))); have hz3 := hb3.size; clear hb3) | (go_at_call 212; refine (zla H4.out.st t fs FA fc m HM1.out (zcx H4.out.of) (by omega)).mono ?_; rintro e w5 ⟨rfl, q5', k5⟩; have H5 := jj (H4.out.next q5' k5); clear q5' k5) | (go_at_call 96; refine (zfs H5.out.st 2).mono ?_; rintro e w5b ⟨rfl, q5', k5⟩; rw [HVR.out]; have H5b := jj (H5.out.next q5' k5); clear q5' k5) | (go_at_call 96; refine (zfs H3.out.st 3).mono ?_; rintro e w4 ⟨rfl, q4', k4⟩; rw [HNM.out]; have H4a := H3.out.next q4' k4; have g3 := zai k4 H3.out.st (anw w3 (.cells #[.int .i64 t.k, .string t.s, .int .i64 t.n, .int .i64 t.p] 63)) (by omega); have p0 := zaa g3 0; have p1 := zaa g3 1; have p2 := zaa g3 2; have p3 := zaa g3 3; have n7 := zaa H4a.ln 7; have H4 := jj H4a; clear q4' k4 g3 H4a) | (go_at_call 97; refine (zcb (l := zbc) H5b.out.st (by decide) (by decide) (zab #[45, 62])).mono ?_; rintro e w6 ⟨rfl, q6', k6⟩; have H6 := jj (H5b.out.next q6' k6); clear q6' k6) | (go_at_call 30; refine (HX1.out _ H6.out.st).mono ?_; rintro e w7 ⟨A7, c7, rfl, t7, q7', k7⟩; have hz6 := H6.out.fr.size; have hz7 := ltr hz6 k7.size; have hl7 := lltl H6.out.lt k7.size; have H7 := jj (H6.out.next q7' k7); have T7 := jj t7; have HOW : Hid (∀ o, World.ownsRow (w7.alloc o) (w.heap.size + 1) 25 1 (.slice (some ⟨g, 0, none⟩) (m + 1) uc) (m + 1) vals) := jj fun o => H7.out.ks.alloc o; clear q7' k7 t7) | (at_builtin; refine zah _ rfl _ _ 135 rfl (w.heap.size + 1) 25 i0 (.agg #[.slice none 0 0]) 1 24 Tryz.underlying135 hi0 hz0 hz1 hz2 rfl (by decide) _ (m + 1) _ rfl (HOW.out _) ⟨w7.heap.size, 0, none⟩ 1 1 [.slice A7 a1.length c7] rfl rfl (fun j u hj => zaj w7 25 [.slice A7 a1.length c7] w7.heap.size rfl j u hj) (fun u hu => by rw [List.mem_singleton.1 hu]; rfl) (by unfold maxLen; omega) (by omega) (by simp; omega) ?_; intro v8 w8 hown8 hgrow8 hpl8; obtain ⟨g8, c8, rfl⟩ := ownsRow_succ hown8; have H8a := H6.out.kid H7.out T7.out hown8 hgrow8 hpl8; have y7 := zaa H8a.ln 7; have hz8 := H8a.fr.size; have hl8 := H8a.lt; have H8 := jj H8a; have HOF : Hid (∀ o, World.ownsRow (w8.alloc o) (w.heap.size + 1) 97 3 (.slice FA m fc) m (fCells fs)) := jj (fun o => by have := World.ownsRow.alloc H8a.of o; rwa [HM1.out] at this); clear hown8 hgrow8 hpl8 H8a) | (at_builtin; refine zah _ rfl _ _ 35 rfl (w.heap.size + 1) 97 j0 (.agg #[.string ⟨#[]⟩, .string ⟨#[]⟩, .int .i64 0]) 3 40 Tryz.underlying35 hj0 hy0 hy1 hy2 rfl (by decide) _ m _ rfl (HOF.out _) ⟨w8.heap.size, 0, none⟩ 1 1 [.string nm, .string vr, .int .i64 0] rfl rfl (fun j u hj => zaj w8 97 [.string nm, .string vr, .int .i64 0] w8.heap.size rfl j u hj) (one3 _ _ _) (by unfold maxLen; omega) (by omega) (by simp; omega) ?_; intro v9 w9 hown9 hgrow9 hpl9; obtain ⟨g9, c9, rfl⟩ := ownsRow_succ hown9; have HD0 := H8.out.push (f := fld nm vr) (by rw [HM1.out]; exact hown9) hgrow9 hpl9; have d7 := zaa HD0.1 7; have fz7 := zac HD0.1 7; have H9 := jj HD0.2; clear hown9 hgrow9 hpl9 HD0) | (go_at_call 100; refine (za8 (l := zej) H9.out.st (zab #[124])).mono ?_; rintro e w10 ⟨rfl, q10, k10⟩; rw [HG.out] at q10; rw [HC.out]; have H10 := jj (H9.out.next q10 k10); clear q10 k10))
     go_roundg k
     case measure => omega
     case rel => exact ⟨fs ++ [fld nm vr], s1.nx, ts ++ [a1], some ⟨g9, 0, none⟩, m + 1, c9, g8, c8, vals ++ [.slice A7 a1.length c7], rfl, jj (by rw [List.length_append, HM1.out]; rfl), jj (by rw [List.length_append, HMT.out]; rfl), H10, HE3⟩
    ·have hc' := beff.2 hc
     have HG := jj (ze3 hc')
     have HC := jj hc'
     have hE := HE2.out
     simp only at hE
     rw [if_neg hc] at hE
     obtain ⟨hJ, hT, hS⟩ := zam hE
     subst hS
     have HJN : Hid (∀ (W : World) (FA : Option Addr) (fc g uc : Nat) (vals : List Value), Rc B pb rb w W (s1.must 1 zfq) (w1.heap.size + 1) 14 p (.slice FA (m + 1) fc) (fs ++ [fld nm vr]) (.slice (some ⟨g, 0, none⟩) (m + 1 + 1) uc) (m + 1 + 1) vals (ts ++ [a1]) -> Calls Tryz.prog 98 #[.agg #[.int .i64 14, .int .i64 0, .int .i64 0, .int .i64 0, .int .i64 0, .string ⟨#[]⟩, .string ⟨#[]⟩, .slice FA (m + 1) fc, .int .i64 p], .slice (some ⟨g, 0, none⟩) (m + 1 + 1) uc] W (NPost tf W)) := jj fun W FA fc g uc vals h => by rw [hT]; exact Rc.join h (y := { mk 14 p with l := fs ++ [fld nm vr] }) rfl rfl (by rw [List.length_append, HM1.out]; rfl) rfl hJ
     clear hE hc hc' hJ hT HE2
     go_wp2_with (first | (go_at_call 98; refine (HJN.out _ _ _ _ _ _ H11.out).mono ?_; rintro e w12 ⟨A12, c12, ps, rfl, p12, o12, b12⟩; have H12 := jj (H11.out.below b12); have r2 := zaa H12.out.r2 0; have f2 := zac H12.out.r2 0; have T12 := jj ((NPost.tr p12 o12).low (B := w.heap.size + 1) (by have := H11.out.lt; have := H11.out.hk; omega)); clear p12 o12 b12) | (go_at_call 97; refine (zcb (l := zfq) H10.out.st (by decide) (by decide) (zab #[101, 110, 100])).mono ?_; rintro e w11 ⟨rfl, q11, k11⟩; have H11a := H10.out.next q11 k11; obtain ⟨z0, z1, z2, z3, z4, z5, z6, z7, z8⟩ := H11a.facts; have H11 := jj H11a; clear q11 k11 H11a) | (go_at_call 32; refine (za1 HS.out.st).mono ?_; rintro e w3 ⟨rfl, hb3⟩; rw [HT.out]; have H3 := jj ((HS.out.below hb3).below (baw w3 (.cells #[.int .i64 t.k, .string t.s, .int .i64 t.n, .int .i64 t.p] 63))); have hz3 := hb3.size; clear hb3) | (go_at_call 212; refine (zla H4.out.st t fs FA fc m HM1.out (zcx H4.out.of) (by omega)).mono ?_; rintro e w5 ⟨rfl, q5', k5⟩; have H5 := jj (H4.out.next q5' k5); clear q5' k5) | (go_at_call 96; refine (zfs H5.out.st 2).mono ?_; rintro e w5b ⟨rfl, q5', k5⟩; rw [HVR.out]; have H5b := jj (H5.out.next q5' k5); clear q5' k5) | (go_at_call 96; refine (zfs H3.out.st 3).mono ?_; rintro e w4 ⟨rfl, q4', k4⟩; rw [HNM.out]; have H4a := H3.out.next q4' k4; have g3 := zai k4 H3.out.st (anw w3 (.cells #[.int .i64 t.k, .string t.s, .int .i64 t.n, .int .i64 t.p] 63)) (by omega); have p0 := zaa g3 0; have p1 := zaa g3 1; have p2 := zaa g3 2; have p3 := zaa g3 3; have n7 := zaa H4a.ln 7; have H4 := jj H4a; clear q4' k4 g3 H4a) | (go_at_call 97; refine (zcb (l := zbc) H5b.out.st (by decide) (by decide) (zab #[45, 62])).mono ?_; rintro e w6 ⟨rfl, q6', k6⟩; have H6 := jj (H5b.out.next q6' k6); clear q6' k6) | (go_at_call 30; refine (HX1.out _ H6.out.st).mono ?_; rintro e w7 ⟨A7, c7, rfl, t7, q7', k7⟩; have hz6 := H6.out.fr.size; have hz7 := ltr hz6 k7.size; have hl7 := lltl H6.out.lt k7.size; have H7 := jj (H6.out.next q7' k7); have T7 := jj t7; have HOW : Hid (∀ o, World.ownsRow (w7.alloc o) (w.heap.size + 1) 25 1 (.slice (some ⟨g, 0, none⟩) (m + 1) uc) (m + 1) vals) := jj fun o => H7.out.ks.alloc o; clear q7' k7 t7) | (at_builtin; refine zah _ rfl _ _ 135 rfl (w.heap.size + 1) 25 i0 (.agg #[.slice none 0 0]) 1 24 Tryz.underlying135 hi0 hz0 hz1 hz2 rfl (by decide) _ (m + 1) _ rfl (HOW.out _) ⟨w7.heap.size, 0, none⟩ 1 1 [.slice A7 a1.length c7] rfl rfl (fun j u hj => zaj w7 25 [.slice A7 a1.length c7] w7.heap.size rfl j u hj) (fun u hu => by rw [List.mem_singleton.1 hu]; rfl) (by unfold maxLen; omega) (by omega) (by simp; omega) ?_; intro v8 w8 hown8 hgrow8 hpl8; obtain ⟨g8, c8, rfl⟩ := ownsRow_succ hown8; have H8a := H6.out.kid H7.out T7.out hown8 hgrow8 hpl8; have y7 := zaa H8a.ln 7; have hz8 := H8a.fr.size; have hl8 := H8a.lt; have H8 := jj H8a; have HOF : Hid (∀ o, World.ownsRow (w8.alloc o) (w.heap.size + 1) 97 3 (.slice FA m fc) m (fCells fs)) := jj (fun o => by have := World.ownsRow.alloc H8a.of o; rwa [HM1.out] at this); clear hown8 hgrow8 hpl8 H8a) | (at_builtin; refine zah _ rfl _ _ 35 rfl (w.heap.size + 1) 97 j0 (.agg #[.string ⟨#[]⟩, .string ⟨#[]⟩, .int .i64 0]) 3 40 Tryz.underlying35 hj0 hy0 hy1 hy2 rfl (by decide) _ m _ rfl (HOF.out _) ⟨w8.heap.size, 0, none⟩ 1 1 [.string nm, .string vr, .int .i64 0] rfl rfl (fun j u hj => zaj w8 97 [.string nm, .string vr, .int .i64 0] w8.heap.size rfl j u hj) (one3 _ _ _) (by unfold maxLen; omega) (by omega) (by simp; omega) ?_; intro v9 w9 hown9 hgrow9 hpl9; obtain ⟨g9, c9, rfl⟩ := ownsRow_succ hown9; have HD0 := H8.out.push (f := fld nm vr) (by rw [HM1.out]; exact hown9) hgrow9 hpl9; have d7 := zaa HD0.1 7; have fz7 := zac HD0.1 7; have H9 := jj HD0.2; clear hown9 hgrow9 hpl9 HD0) | (go_at_call 100; refine (za8 (l := zej) H9.out.st (zab #[124])).mono ?_; rintro e w10 ⟨rfl, q10, k10⟩; rw [HG.out] at q10; rw [HC.out]; have H10 := jj (H9.out.next q10 k10); clear q10 k10))
     exact bodyPost_ret (res209 _ _ w.heap.size A12 _ c12 rfl (by go_simp)) rfl ⟨A12, c12, rfl, H12.out.cel.out T12.out⟩
   ·have hz : (x.err == 0) = false := by simpa using he
    rw [if_neg he] at hp
    obtain ⟨hJ, hT, hS⟩ := zam hp
    subst hS
    have HJN : Hid (∀ (W : World) (FA : Option Addr) (fc g uc : Nat) (vals : List Value), Rc B pb rb w W sf (w1.heap.size + 1) 14 p (.slice FA (m) fc) (fs) (.slice (some ⟨g, 0, none⟩) (m + 1) uc) (m + 1) vals (ts) -> Calls Tryz.prog 98 #[.agg #[.int .i64 14, .int .i64 0, .int .i64 0, .int .i64 0, .int .i64 0, .string ⟨#[]⟩, .string ⟨#[]⟩, .slice FA (m) fc, .int .i64 p], .slice (some ⟨g, 0, none⟩) (m + 1) uc] W (NPost tf W)) := jj fun W FA fc g uc vals h => by rw [hT]; exact Rc.join h (y := { mk 14 p with l := fs }) rfl rfl HM1.out rfl hJ
    clear hp hJ hT he
    go_wp2_with (go_at_call 98; refine (HJN.out _ _ _ _ _ _ HS.out).mono ?_; rintro e w12 ⟨A12, c12, ps, rfl, p12, o12, b12⟩; have H12 := jj (HS.out.below b12); have r2 := zaa H12.out.r2 0; have f2 := zac H12.out.r2 0; have T12 := jj ((NPost.tr p12 o12).low (B := w.heap.size + 1) (by have := HS.out.lt; have := HS.out.hk; omega)); clear p12 o12 b12)
    exact bodyPost_ret (res209 _ _ w.heap.size A12 _ c12 rfl (by go_simp)) rfl ⟨A12, c12, rfl, H12.out.cel.out T12.out⟩
end
open T Go.RowKit Go.Shelf
open A (Fr)
attribute [local go_sem] A.zat A.zau A.zas
section
variable {B pb rb : Nat} {w w' W : World} {s s' : RS}
theorem Lc.last {k c : Nat} {A : Option Addr} {t : List Nd} {y : Nd} (h : Lc w W k A c t) (hy : t.getLast? = some y) : ∃ g o, A = some ⟨g, o, none⟩ /\ W.cell? ⟨g, o + (t.length - 1) * 9, none⟩ = some (.int .i64 y.kind) /\ 0 < t.length /\ t.length <= 9223372036854775807 := by
 have h0 : 0 < t.length := by cases t with
  | nil => simp at hy
  | cons _ _ => simp
 have hl : t[t.length - 1]? = some y := by rw [<- List.getLast?_eq_getElem?]; exact hy
 obtain ⟨A', c', e, hc, _, hq⟩ := h.tr.nodes
 obtain ⟨g, o, rfl, _, hf⟩ := hq h0
 simp only [Value.slice.injEq, true_and] at e
 obtain ⟨rfl, rfl⟩ := e
 obtain ⟨_, _, m0, _⟩ := hf _ y hl
 exact ⟨g, o, rfl, m0, h0, by omega⟩
theorem zmz {X : RS -> Ans} (HX : Rdz B pb rb 30 X) {p : Int} {tf : List Nd} {sf : RS} (h : Qs B pb rb w s) (m0 : s.on 1 zb5 = false) (m1 : s.on 1 zcf = true) (m2 : s.nx.on 1 zdw = true) (ho : bindK X p 8 s.nx.nx = some (tf, sf)) : Calls Tryz.prog 58 #[.pointer (some ⟨pb, 0, none⟩), .int .i64 p] w (TP B pb rb w tf sf) := by
 unfold bindK at ho
 obtain ⟨a, s1, e1, e2⟩ := bind_some ho
 rw [if_pos rfl] at e2
 dsimp only at e2
 obtain ⟨t, ht⟩ : ∃ t, ((s.nx.nx.off 2).2.must 7 zbg).pk = t := ⟨_, rfl⟩
 rw [ht] at e2
 have HT := jj ht
 obtain ⟨nm, hnm⟩ : ∃ nm, (s.nx.nx.off 2).1 = nm := ⟨_, rfl⟩
 rw [hnm] at e2
 have HNM := jj hnm
 have HC := jj (Cel.made h)
 have HG0 := jj (ze3 m0)
 have HG1 := jj (zea m1)
 have HG2 := jj (zea m2)
 have HM0 := jj m0
 have HM1 := jj m1
 have HM2 := jj m2
 have X1 : Hid (∀ W, Qs B pb rb W ((s.nx.nx.off 2).2.must 7 zbg) -> Calls Tryz.prog 30 #[.pointer (some ⟨pb, 0, none⟩)] W (TP B pb rb W a s1)) := jj fun W hW => HX W _ _ _ hW e1
 clear h m0 m1 m2 ho e1 hnm ht
 by_cases he : s1.err = 0
 ·have HER := jj he
  by_cases hk : lastK a = 5
  ·rw [if_neg (show ¬ (s1.err = 0 /\ lastK a ≠ 5) from fun h0 => h0.2 hk)] at e2
   obtain ⟨b, s2, e3, e4⟩ := bind_some e2
   obtain ⟨hJ, hT, hS⟩ := zam e4
   subst hS
   have HJN : Hid (∀ (W : World) (k : Nat) (A1 A2 : Option Addr) (c1 c2 : Nat), k = W.heap.size -> Nodes W.heap.size W (.slice A1 a.length c1) a -> Nodes W.heap.size W (.slice A2 b.length c2) b -> Calls Tryz.prog 98 #[.agg #[.int .i64 8, .int .i64 0, .int .i64 0, .int .i64 0, .int .i64 0, .string nm, .string ⟨#[]⟩, .slice none 0 0, .int .i64 p], .slice (some ⟨k, 0, none⟩) 2 2] (W.alloc (.cells #[.slice A1 a.length c1, .slice A2 b.length c2] 25)) (NPost tf (W.alloc (.cells #[.slice A1 a.length c1, .slice A2 b.length c2] 25)))) := jj fun W k A1 A2 c1 c2 hk h1 h2 => by rw [hT, hk]; exact zb2 rfl hJ h1 h2
   have X2 : Hid (∀ W, Qs B pb rb W (s1.must 1 w_in) -> Calls Tryz.prog 30 #[.pointer (some ⟨pb, 0, none⟩)] W (TP B pb rb W b sf)) := jj fun W hW => HX W _ _ _ hW e3
   obtain ⟨y, hy⟩ : ∃ y, a.getLast? = some y := by
    cases hh : a.getLast? with
    | none => exact absurd (List.getLast?_eq_none_iff.1 hh) (hJ.2.2.1 a (by simp)).1.1
    | some y => exact ⟨y, rfl⟩
   have HY := jj hy
   obtain ⟨kd, hkd⟩ : ∃ kd, y.kind = kd := ⟨_, rfl⟩
   have HK := jj hkd
   have hlk : lastK a = kd := by unfold lastK; rw [hy, <- hkd]; rfl
   have hz5 : (kd != 5) = false := by rw [<- hlk, hk]; rfl
   clear hy hkd hlk hk he
   clear e2 e3 e4 hJ hT HX
   go_enter Tryz.func58, Tryz.ntmps58
   go_wp2_with (first | (go_at_call 95; refine (za2 (l := zdw) H4.out.st (zab #[114, 101, 99])).mono ?_; rintro e w5 ⟨rfl, q4, k4⟩; rw [HG2.out] at q4; rw [HM2.out]; have H5 := jj (H4.out.next q4 k4); clear q4 k4) | (go_at_call 95; refine (za2 (l := zcf) H3.out.st (zab #[108, 101, 116])).mono ?_; rintro e w4 ⟨rfl, q4, k4⟩; rw [HG1.out] at q4; rw [HM1.out]; have H4 := jj (H3.out.next q4 k4); clear q4 k4) | (go_at_call 95; refine (za2 (l := zb5) HC.out.st (zab #[102, 117, 110])).mono ?_; rintro e w3 ⟨rfl, q4, k4⟩; rw [HG0.out] at q4; rw [HM0.out]; have H3 := jj (HC.out.next q4 k4); clear q4 k4) | (go_at_call 96; refine (zfs H5.out.st 2).mono ?_; rintro e w6 ⟨rfl, q4, k4⟩; rw [HNM.out]; have H6 := jj (H5.out.next q4 k4); clear q4 k4) | (go_at_call 97; refine (zcb (l := w_in) H9.out.st (by decide) (by decide) (zab #[105, 110])).mono ?_; rintro e w10 ⟨rfl, q4, k4⟩; have H10 := jj (H9.out.next q4 k4); have M10 := jj (M9.out.next H9.out k4); clear q4 k4) | (go_at_call 97; refine (zcb (l := zbg) H6.out.st (by decide) (by decide) (zab #[61])).mono ?_; rintro e w7 ⟨rfl, q4, k4⟩; have H7 := jj (H6.out.next q4 k4); obtain ⟨d0, _, _, _, _⟩ := H7.out.st.pcells; clear q4 k4) | (go_at_call 32; refine (za1 H7.out.st).mono ?_; rintro e w8 ⟨rfl, hb8⟩; rw [HT.out]; have H8 := jj (H7.out.below hb8); clear hb8) | (go_at_call 30; refine (X2.out _ H10.out.st).mono ?_; rintro e w11 ⟨A11, c11, rfl, t6, q4, k4⟩; have b0 : Below w11.heap.size w11 (w11.alloc (.cells #[.slice A11 b.length c11] 25)) := baw _ _; have H11 := jj ((H10.out.next q4 k4).below b0); have N11 := jj (Lc.made H10.out t6 k4); have M11 := jj ((M10.out.next H10.out k4).below b0); have z1 := zaa M11.out.at_ 0; have z2 := zaa N11.out.at_ 0; clear q4 k4 t6 b0) | (go_at_call 30; refine (X1.out _ H8.out.st).mono ?_; rintro e w9 ⟨A9, c9, rfl, t6, q4, k4⟩; have b0 : Below w9.heap.size w9 (w9.alloc (.cells #[.slice A9 a.length c9] 25)) := baw _ _; have H9 := jj ((H8.out.next q4 k4).below b0); have M9 := jj (Lc.made H8.out t6 k4); clear q4 k4 t6 b0; obtain ⟨e0, e1x, _, _, _⟩ := H9.out.st.pcells; rw [HER.out] at e1x; obtain ⟨g, o, hA9, l9, z9, y9⟩ := M9.out.last HY.out; subst hA9; rw [HK.out] at l9; have u9 := zaa M9.out.at_ 0; have i1 : (0 : Int) <= (a.length : Int) - 1 := (by omega); have i2 : (a.length : Int) - 1 < (a.length : Int) := (by omega); have i3 : ((a.length : Int) - 1).toNat = a.length - 1 := (by omega)) | (go_at_call 98; refine (HJN.out _ _ _ _ _ _ (by simp) M11.out.tr.nodes N11.out.tr.nodes).mono ?_; rintro e w12 ⟨A7, c7, ps7, rfl, p7, o7, b7⟩; have H12 := jj ((H11.out.below (baw _ _)).below b7); have r7 := zaa H12.out.r2 0; have f7 := zac H12.out.r2 0; have T7 := jj ((NPost.tr p7 o7).low (B := w.heap.size + 1) (by have := H11.out.lt; simp at this ⊢; omega)); clear p7 o7 b7))
   exact bodyPost_ret (res58 _ _ w.heap.size A7 _ c7 rfl (by go_simp)) rfl ⟨A7, c7, rfl, H12.out.out T7.out⟩
  ·rw [if_pos (show s1.err = 0 /\ lastK a ≠ 5 from ⟨he, hk⟩)] at e2
   obtain ⟨b, s2, e3, e4⟩ := bind_some e2
   obtain ⟨hJ, hT, hS⟩ := zam e4
   subst hS
   have HJN : Hid (∀ (W : World) (k : Nat) (A1 A2 : Option Addr) (c1 c2 : Nat), k = W.heap.size -> Nodes W.heap.size W (.slice A1 a.length c1) a -> Nodes W.heap.size W (.slice A2 b.length c2) b -> Calls Tryz.prog 98 #[.agg #[.int .i64 8, .int .i64 0, .int .i64 0, .int .i64 0, .int .i64 0, .string nm, .string ⟨#[]⟩, .slice none 0 0, .int .i64 p], .slice (some ⟨k, 0, none⟩) 2 2] (W.alloc (.cells #[.slice A1 a.length c1, .slice A2 b.length c2] 25)) (NPost tf (W.alloc (.cells #[.slice A1 a.length c1, .slice A2 b.length c2] 25)))) := jj fun W k A1 A2 c1 c2 hk h1 h2 => by rw [hT, hk]; exact zb2 rfl hJ h1 h2
   have X2 : Hid (∀ W, Qs B pb rb W ((s1.fail 5 t.p).must 1 w_in) -> Calls Tryz.prog 30 #[.pointer (some ⟨pb, 0, none⟩)] W (TP B pb rb W b sf)) := jj fun W hW => HX W _ _ _ hW e3
   obtain ⟨y, hy⟩ : ∃ y, a.getLast? = some y := by
    cases hh : a.getLast? with
    | none => exact absurd (List.getLast?_eq_none_iff.1 hh) (hJ.2.2.1 a (by simp)).1.1
    | some y => exact ⟨y, rfl⟩
   have HY := jj hy
   obtain ⟨kd, hkd⟩ : ∃ kd, y.kind = kd := ⟨_, rfl⟩
   have HK := jj hkd
   have hlk : lastK a = kd := by unfold lastK; rw [hy, <- hkd]; rfl
   have hz5 : (kd != 5) = true := by rw [<- hlk]; simpa using hk
   clear hy hkd hlk hk he
   clear e2 e3 e4 hJ hT HX
   go_enter Tryz.func58, Tryz.ntmps58
   go_wp2_with (first | (go_at_call 95; refine (za2 (l := zdw) H4.out.st (zab #[114, 101, 99])).mono ?_; rintro e w5 ⟨rfl, q4, k4⟩; rw [HG2.out] at q4; rw [HM2.out]; have H5 := jj (H4.out.next q4 k4); clear q4 k4) | (go_at_call 95; refine (za2 (l := zcf) H3.out.st (zab #[108, 101, 116])).mono ?_; rintro e w4 ⟨rfl, q4, k4⟩; rw [HG1.out] at q4; rw [HM1.out]; have H4 := jj (H3.out.next q4 k4); clear q4 k4) | (go_at_call 95; refine (za2 (l := zb5) HC.out.st (zab #[102, 117, 110])).mono ?_; rintro e w3 ⟨rfl, q4, k4⟩; rw [HG0.out] at q4; rw [HM0.out]; have H3 := jj (HC.out.next q4 k4); clear q4 k4) | (go_at_call 96; refine (zfs H5.out.st 2).mono ?_; rintro e w6 ⟨rfl, q4, k4⟩; rw [HNM.out]; have H6 := jj (H5.out.next q4 k4); clear q4 k4) | (go_at_call 97; refine (zcb (l := w_in) H9b.out.st (by decide) (by decide) (zab #[105, 110])).mono ?_; rintro e w10 ⟨rfl, q4, k4⟩; have H10 := jj (H9b.out.next q4 k4); have M10 := jj (M9b.out.next H9b.out k4); clear q4 k4) | (go_at_call 97; refine (zcb (l := zbg) H6.out.st (by decide) (by decide) (zab #[61])).mono ?_; rintro e w7 ⟨rfl, q4, k4⟩; have H7 := jj (H6.out.next q4 k4); obtain ⟨d0, _, _, _, _⟩ := H7.out.st.pcells; clear q4 k4) | (go_at_call 32; refine (za1 H7.out.st).mono ?_; rintro e w8 ⟨rfl, hb8⟩; rw [HT.out]; have H8 := jj (H7.out.below hb8); clear hb8) | (go_at_call 31; refine (zfn H9.out.st 5 t.p).mono ?_; rintro e w9b ⟨rfl, q4, k4⟩; have H9b := jj (H9.out.next q4 k4); have M9b := jj (M9.out.next H9.out k4); clear q4 k4) | (go_at_call 30; refine (X2.out _ H10.out.st).mono ?_; rintro e w11 ⟨A11, c11, rfl, t6, q4, k4⟩; have b0 : Below w11.heap.size w11 (w11.alloc (.cells #[.slice A11 b.length c11] 25)) := baw _ _; have H11 := jj ((H10.out.next q4 k4).below b0); have N11 := jj (Lc.made H10.out t6 k4); have M11 := jj ((M10.out.next H10.out k4).below b0); have z1 := zaa M11.out.at_ 0; have z2 := zaa N11.out.at_ 0; clear q4 k4 t6 b0) | (go_at_call 30; refine (X1.out _ H8.out.st).mono ?_; rintro e w9 ⟨A9, c9, rfl, t6, q4, k4⟩; have b0 : Below w9.heap.size w9 (w9.alloc (.cells #[.slice A9 a.length c9] 25)) := baw _ _; have H9 := jj ((H8.out.next q4 k4).below b0); have M9 := jj (Lc.made H8.out t6 k4); clear q4 k4 t6 b0; obtain ⟨e0, e1x, _, _, _⟩ := H9.out.st.pcells; rw [HER.out] at e1x; obtain ⟨g, o, hA9, l9, z9, y9⟩ := M9.out.last HY.out; subst hA9; rw [HK.out] at l9; have u9 := zaa M9.out.at_ 0; have i1 : (0 : Int) <= (a.length : Int) - 1 := (by omega); have i2 : (a.length : Int) - 1 < (a.length : Int) := (by omega); have i3 : ((a.length : Int) - 1).toNat = a.length - 1 := (by omega)) | (go_at_call 98; refine (HJN.out _ _ _ _ _ _ (by simp) M11.out.tr.nodes N11.out.tr.nodes).mono ?_; rintro e w12 ⟨A7, c7, ps7, rfl, p7, o7, b7⟩; have H12 := jj ((H11.out.below (baw _ _)).below b7); have r7 := zaa H12.out.r2 0; have f7 := zac H12.out.r2 0; have T7 := jj ((NPost.tr p7 o7).low (B := w.heap.size + 1) (by have := H11.out.lt; simp at this ⊢; omega)); clear p7 o7 b7))
   exact bodyPost_ret (res58 _ _ w.heap.size A7 _ c7 rfl (by go_simp)) rfl ⟨A7, c7, rfl, H12.out.out T7.out⟩
 ·rw [if_neg (show ¬ (s1.err = 0 /\ lastK a ≠ 5) from fun h0 => he h0.1)] at e2
  obtain ⟨b, s2, e3, e4⟩ := bind_some e2
  obtain ⟨hJ, hT, hS⟩ := zam e4
  subst hS
  have HJN : Hid (∀ (W : World) (k : Nat) (A1 A2 : Option Addr) (c1 c2 : Nat), k = W.heap.size -> Nodes W.heap.size W (.slice A1 a.length c1) a -> Nodes W.heap.size W (.slice A2 b.length c2) b -> Calls Tryz.prog 98 #[.agg #[.int .i64 8, .int .i64 0, .int .i64 0, .int .i64 0, .int .i64 0, .string nm, .string ⟨#[]⟩, .slice none 0 0, .int .i64 p], .slice (some ⟨k, 0, none⟩) 2 2] (W.alloc (.cells #[.slice A1 a.length c1, .slice A2 b.length c2] 25)) (NPost tf (W.alloc (.cells #[.slice A1 a.length c1, .slice A2 b.length c2] 25)))) := jj fun W k A1 A2 c1 c2 hk h1 h2 => by rw [hT, hk]; exact zb2 rfl hJ h1 h2
  have X2 : Hid (∀ W, Qs B pb rb W (s1.must 1 w_in) -> Calls Tryz.prog 30 #[.pointer (some ⟨pb, 0, none⟩)] W (TP B pb rb W b sf)) := jj fun W hW => HX W _ _ _ hW e3
  obtain ⟨er, her⟩ : ∃ er, s1.err = er := ⟨_, rfl⟩
  have HER := jj her
  have hz : (er == 0) = false := by rw [<- her]; simpa using he
  clear her he
  clear e2 e3 e4 hJ hT HX
  go_enter Tryz.func58, Tryz.ntmps58
  go_wp2_with (first | (go_at_call 95; refine (za2 (l := zdw) H4.out.st (zab #[114, 101, 99])).mono ?_; rintro e w5 ⟨rfl, q4, k4⟩; rw [HG2.out] at q4; rw [HM2.out]; have H5 := jj (H4.out.next q4 k4); clear q4 k4) | (go_at_call 95; refine (za2 (l := zcf) H3.out.st (zab #[108, 101, 116])).mono ?_; rintro e w4 ⟨rfl, q4, k4⟩; rw [HG1.out] at q4; rw [HM1.out]; have H4 := jj (H3.out.next q4 k4); clear q4 k4) | (go_at_call 95; refine (za2 (l := zb5) HC.out.st (zab #[102, 117, 110])).mono ?_; rintro e w3 ⟨rfl, q4, k4⟩; rw [HG0.out] at q4; rw [HM0.out]; have H3 := jj (HC.out.next q4 k4); clear q4 k4) | (go_at_call 96; refine (zfs H5.out.st 2).mono ?_; rintro e w6 ⟨rfl, q4, k4⟩; rw [HNM.out]; have H6 := jj (H5.out.next q4 k4); clear q4 k4) | (go_at_call 97; refine (zcb (l := w_in) H9.out.st (by decide) (by decide) (zab #[105, 110])).mono ?_; rintro e w10 ⟨rfl, q4, k4⟩; have H10 := jj (H9.out.next q4 k4); have M10 := jj (M9.out.next H9.out k4); clear q4 k4) | (go_at_call 97; refine (zcb (l := zbg) H6.out.st (by decide) (by decide) (zab #[61])).mono ?_; rintro e w7 ⟨rfl, q4, k4⟩; have H7 := jj (H6.out.next q4 k4); obtain ⟨d0, _, _, _, _⟩ := H7.out.st.pcells; clear q4 k4) | (go_at_call 32; refine (za1 H7.out.st).mono ?_; rintro e w8 ⟨rfl, hb8⟩; rw [HT.out]; have H8 := jj (H7.out.below hb8); clear hb8) | (go_at_call 30; refine (X2.out _ H10.out.st).mono ?_; rintro e w11 ⟨A11, c11, rfl, t6, q4, k4⟩; have b0 : Below w11.heap.size w11 (w11.alloc (.cells #[.slice A11 b.length c11] 25)) := baw _ _; have H11 := jj ((H10.out.next q4 k4).below b0); have N11 := jj (Lc.made H10.out t6 k4); have M11 := jj ((M10.out.next H10.out k4).below b0); have z1 := zaa M11.out.at_ 0; have z2 := zaa N11.out.at_ 0; clear q4 k4 t6 b0) | (go_at_call 30; refine (X1.out _ H8.out.st).mono ?_; rintro e w9 ⟨A9, c9, rfl, t6, q4, k4⟩; have b0 : Below w9.heap.size w9 (w9.alloc (.cells #[.slice A9 a.length c9] 25)) := baw _ _; have H9 := jj ((H8.out.next q4 k4).below b0); have M9 := jj (Lc.made H8.out t6 k4); clear q4 k4 t6 b0; obtain ⟨e0, e1x, _, _, _⟩ := H9.out.st.pcells; rw [HER.out] at e1x) | (go_at_call 98; refine (HJN.out _ _ _ _ _ _ (by simp) M11.out.tr.nodes N11.out.tr.nodes).mono ?_; rintro e w12 ⟨A7, c7, ps7, rfl, p7, o7, b7⟩; have H12 := jj ((H11.out.below (baw _ _)).below b7); have r7 := zaa H12.out.r2 0; have f7 := zac H12.out.r2 0; have T7 := jj ((NPost.tr p7 o7).low (B := w.heap.size + 1) (by have := H11.out.lt; simp at this ⊢; omega)); clear p7 o7 b7))
  exact bodyPost_ret (res58 _ _ w.heap.size A7 _ c7 rfl (by go_simp)) rfl ⟨A7, c7, rfl, H12.out.out T7.out⟩
end
open T Go.RowKit Go.Shelf
open A (Fr)
attribute [local go_sem] A.zat A.zau A.zas
section
variable {B pb rb : Nat} {w w' W : World} {s s' : RS}
theorem Held.cel {k3 : Nat} {t : List Nd} (h : Held B pb rb w W k3 t s) : Cel B pb rb w W s := ⟨h.st, h.fr, h.r2, h.B1⟩
theorem ztr {k : Int} {x : List UInt8} (h : s.on k x = true) : s.err = 0 /\ s.is k x = true := by
 unfold RS.on at h
 rw [Bool.and_eq_true, decide_eq_true_eq] at h
 exact h
theorem zv4 {k : Int} {x : List UInt8} (h : s.on k x = false) (he : s.err = 0) : s.is k x = false := by
 unfold RS.on at h
 rw [decide_eq_true he, Bool.true_and] at h
 exact h
theorem zqn {X : RS -> Ans} (HX : Rdz B pb rb 99 (sumR X)) {p : Int} {tf : List Nd} {sf : RS} (h : Qs B pb rb w s) (m0 : s.on 1 zb5 = false) (m1 : s.on 1 zcf = false) (m2 : s.on 1 w_if = false) (ho : cmpR X s = some (tf, sf)) : Calls Tryz.prog 58 #[.pointer (some ⟨pb, 0, none⟩), .int .i64 p] w (TP B pb rb w tf sf) := by
 unfold cmpR at ho
 obtain ⟨a, x, e1, ho2⟩ := bind_some ho
 dsimp only at ho2
 have HC := jj (Cel.made h)
 have hbz := h.hB
 have HG0 := jj (ze3 m0)
 have HG1 := jj (ze3 m1)
 have HG2 := jj (ze3 m2)
 have HM0 := jj m0
 have HM1 := jj m1
 have HM2 := jj m2
 obtain ⟨t, ht⟩ : ∃ t, x.pk = t := ⟨_, rfl⟩
 rw [ht] at ho2
 have HT := jj ht
 have X1 : Hid (∀ W, Qs B pb rb W s -> Calls Tryz.prog 99 #[.pointer (some ⟨pb, 0, none⟩)] W (TP B pb rb W a x)) := jj fun W hW => HX W _ _ _ hW e1
 clear h m0 m1 m2 ho e1 ht
 by_cases hx0 : x.on 7 [60] = true
 ·obtain ⟨he, hi0⟩ := ztr hx0
  have hfd : (cmpOps.find? fun o => x.is 7 o.1) = some ([60], 5) := by unfold cmpOps; simp [hi0]
  have HGO0 : Hid (x.go 7 [60] = x.nx /\ x.on 7 [60] = true) := jj ⟨zea hx0, hx0⟩
  clear hx0 hi0
  rw [if_pos he, hfd] at ho2
  obtain ⟨b, s2, e3, e4⟩ := bind_some ho2
  obtain ⟨hJ, hT, hS⟩ := zam e4
  subst hS
  have HJN : Hid (∀ (W : World) (A A' : Option Addr) (c c' : Nat), Nodes W.heap.size W (.slice A a.length c) a -> Nodes W.heap.size W (.slice A' b.length c') b -> Calls Tryz.prog 98 #[.agg #[.int .i64 10, .int .i64 0, .int .i64 0, .int .i64 0, .int .i64 5, .string ⟨#[]⟩, .string ⟨#[]⟩, .slice none 0 0, .int .i64 t.p], .slice (some ⟨W.heap.size, 0, none⟩) 2 2] (W.alloc (.cells #[.slice A a.length c, .slice A' b.length c'] 25)) (NPost tf (W.alloc (.cells #[.slice A a.length c, .slice A' b.length c'] 25)))) := jj fun W A A' c c' h h' => by rw [hT]; exact zb2 rfl hJ h h'
  have HXX : Hid (∀ W, Qs B pb rb W x.nx -> Calls Tryz.prog 99 #[.pointer (some ⟨pb, 0, none⟩)] W (TP B pb rb W b sf)) := jj fun W hW => HX W _ _ _ hW e3
  clear ho2 hfd e3 e4 hJ hT he HX
  go_enter Tryz.func58, Tryz.ntmps58
  go_wp2_with (first | (go_at_call 100; refine (za8 (l := [60]) H7.out.st (zab #[60])).mono ?_; rintro e w8 ⟨rfl, q4, k4⟩; rw [HGO0.out.1] at q4; rw [HGO0.out.2]; have H8 := jj (H7.out.next q4 k4); have G8 := jj (zai k4 H7.out.st G7.out (by omega)); have p3 := zaa G8.out 3; obtain ⟨A5, c5, h5, t5⟩ := H8.out.at_; have p5 := zaa h5 0; have HC5 := jj h5; have HT5 := jj t5; have e2 := zaa H8.out.r2 0; have f3 := zac H8.out.r2 0; clear q4 k4 h5 t5) | (go_at_call 95; refine (za2 (l := w_if) H4.out.st (zab #[105, 102])).mono ?_; rintro e w5 ⟨rfl, q4, k4⟩; rw [HG2.out] at q4; rw [HM2.out]; have H5 := jj (H4.out.next q4 k4); clear q4 k4) | (go_at_call 95; refine (za2 (l := zcf) H3.out.st (zab #[108, 101, 116])).mono ?_; rintro e w4 ⟨rfl, q4, k4⟩; rw [HG1.out] at q4; rw [HM1.out]; have H4 := jj (H3.out.next q4 k4); clear q4 k4) | (go_at_call 95; refine (za2 (l := zb5) HC.out.st (zab #[102, 117, 110])).mono ?_; rintro e w3 ⟨rfl, q4, k4⟩; rw [HG0.out] at q4; rw [HM0.out]; have H3 := jj (HC.out.next q4 k4); clear q4 k4) | (go_at_call 99; refine (X1.out _ H5.out.st).mono ?_; rintro e w6 ⟨A6, c6, rfl, t6, q4, k4⟩; have H6 := jj (H5.out.held t6 q4 k4); obtain ⟨d0, _, _, _, _⟩ := H6.out.st.pcells; have hz6 : w.heap.size < w6.heap.size := lltl H5.out.lt k4.size; clear q4 k4 t6) | (go_at_call 32; refine (za1 H6.out.st).mono ?_; rintro e w7 ⟨rfl, hb7⟩; rw [HT.out]; have hz7 : w6.heap.size < w7.heap.size := (lltl (by simp) hb7.size); have H7 := jj ((H6.out.below hb7).below (baw w7 (.cells #[.int .i64 t.k, .string t.s, .int .i64 t.n, .int .i64 t.p] 63))); have G7 := jj (anw w7 (.cells #[.int .i64 t.k, .string t.s, .int .i64 t.n, .int .i64 t.p] 63)); clear hb7))
  have HD := jj (H8.out.below (br _ _).drew)
  go_region_with (first | (go_at_call 99; refine (HXX.out _ HD.out.st).mono ?_; rintro e w9 ⟨A9, c9, rfl, t9, q9, k9⟩; have H9 := jj (HD.out.next q9 k9); have g9 := zai k9 HD.out.st (G8.out : w8.drew.heap[w7.heap.size]? = _) (by omega); have u3 := zaa g9 3; have v3 := zaa ((Below.heap_alloc w9 (.cells #[.slice A5 a.length c5, .slice A9 b.length c9] 25) _ (age.1 g9).1).trans g9) 3; have u5 := zaa (zai k9 HD.out.st (HC5.out : w8.drew.heap[w6.heap.size]? = _) (by omega)) 0; have HT9 := jj t9; have HT0 := jj ((HT5.out.below (br _ _).drew).fr k9 (fun i hi => by have := ssB HD.out.st hi; omega)); clear t9 q9 k9 g9) | (go_at_call 98; refine (HJN.out w9 _ _ _ _ HT0.out.nodes HT9.out.nodes).mono ?_; rintro e w10 ⟨A7, c7, ps7, rfl, p7, o7, b7⟩; have H10 := jj ((H9.out.below (baw w9 (.cells #[.slice A5 a.length c5, .slice A9 b.length c9] 25))).below b7); have r7 := zaa H10.out.r2 0; have f7 := zac H10.out.r2 0; have T7 := jj ((NPost.tr p7 o7).low (B := w.heap.size + 1) (by have := H9.out.cel.lt; simp; omega)); clear p7 o7 b7))
  all_goals
   go_wp2
   exact bodyPost_ret (res58 _ _ w.heap.size A7 _ c7 rfl (by go_simp)) rfl ⟨A7, c7, rfl, H10.out.cel.out T7.out⟩
 have hn0 := beff.2 hx0
 have HGO0 : Hid (x.go 7 [60] = x /\ x.on 7 [60] = false) := jj ⟨ze3 hn0, hn0⟩
 by_cases hx1 : x.on 7 [61, 61] = true
 ·obtain ⟨he, hi1⟩ := ztr hx1
  have hi0 := zv4 hn0 he
  have hfd : (cmpOps.find? fun o => x.is 7 o.1) = some ([61, 61], 6) := by unfold cmpOps; simp [hi0, hi1]
  have HGO1 : Hid (x.go 7 [61, 61] = x.nx /\ x.on 7 [61, 61] = true) := jj ⟨zea hx1, hx1⟩
  clear hx0 hx1 hn0 hi0 hi1
  rw [if_pos he, hfd] at ho2
  obtain ⟨b, s2, e3, e4⟩ := bind_some ho2
  obtain ⟨hJ, hT, hS⟩ := zam e4
  subst hS
  have HJN : Hid (∀ (W : World) (A A' : Option Addr) (c c' : Nat), Nodes W.heap.size W (.slice A a.length c) a -> Nodes W.heap.size W (.slice A' b.length c') b -> Calls Tryz.prog 98 #[.agg #[.int .i64 10, .int .i64 0, .int .i64 0, .int .i64 0, .int .i64 6, .string ⟨#[]⟩, .string ⟨#[]⟩, .slice none 0 0, .int .i64 t.p], .slice (some ⟨W.heap.size, 0, none⟩) 2 2] (W.alloc (.cells #[.slice A a.length c, .slice A' b.length c'] 25)) (NPost tf (W.alloc (.cells #[.slice A a.length c, .slice A' b.length c'] 25)))) := jj fun W A A' c c' h h' => by rw [hT]; exact zb2 rfl hJ h h'
  have HXX : Hid (∀ W, Qs B pb rb W x.nx -> Calls Tryz.prog 99 #[.pointer (some ⟨pb, 0, none⟩)] W (TP B pb rb W b sf)) := jj fun W hW => HX W _ _ _ hW e3
  clear ho2 hfd e3 e4 hJ hT he HX
  go_enter Tryz.func58, Tryz.ntmps58
  go_wp2_with (first | (go_at_call 100; refine (za8 (l := [61, 61]) H8.out.st (zab #[61, 61])).mono ?_; rintro e w11 ⟨rfl, q4, k4⟩; rw [HGO1.out.1] at q4; rw [HGO1.out.2]; have H11 := jj (H8.out.next q4 k4); have G11 := jj (zai k4 H8.out.st G8.out (by omega)); have p3 := zaa G11.out 3; obtain ⟨A5, c5, h5, t5⟩ := H11.out.at_; have p5 := zaa h5 0; have HC5 := jj h5; have HT5 := jj t5; have e2 := zaa H11.out.r2 0; have f3 := zac H11.out.r2 0; clear q4 k4 h5 t5) | (go_at_call 100; refine (za8 (l := [60]) H7.out.st (zab #[60])).mono ?_; rintro e w8 ⟨rfl, q4, k4⟩; rw [HGO0.out.1] at q4; rw [HGO0.out.2]; have H8 := jj (H7.out.next q4 k4); have G8 := jj (zai k4 H7.out.st G7.out (by omega)); clear q4 k4) | (go_at_call 95; refine (za2 (l := w_if) H4.out.st (zab #[105, 102])).mono ?_; rintro e w5 ⟨rfl, q4, k4⟩; rw [HG2.out] at q4; rw [HM2.out]; have H5 := jj (H4.out.next q4 k4); clear q4 k4) | (go_at_call 95; refine (za2 (l := zcf) H3.out.st (zab #[108, 101, 116])).mono ?_; rintro e w4 ⟨rfl, q4, k4⟩; rw [HG1.out] at q4; rw [HM1.out]; have H4 := jj (H3.out.next q4 k4); clear q4 k4) | (go_at_call 95; refine (za2 (l := zb5) HC.out.st (zab #[102, 117, 110])).mono ?_; rintro e w3 ⟨rfl, q4, k4⟩; rw [HG0.out] at q4; rw [HM0.out]; have H3 := jj (HC.out.next q4 k4); clear q4 k4) | (go_at_call 99; refine (X1.out _ H5.out.st).mono ?_; rintro e w6 ⟨A6, c6, rfl, t6, q4, k4⟩; have H6 := jj (H5.out.held t6 q4 k4); obtain ⟨d0, _, _, _, _⟩ := H6.out.st.pcells; have hz6 : w.heap.size < w6.heap.size := lltl H5.out.lt k4.size; clear q4 k4 t6) | (go_at_call 32; refine (za1 H6.out.st).mono ?_; rintro e w7 ⟨rfl, hb7⟩; rw [HT.out]; have hz7 : w6.heap.size < w7.heap.size := (lltl (by simp) hb7.size); have H7 := jj ((H6.out.below hb7).below (baw w7 (.cells #[.int .i64 t.k, .string t.s, .int .i64 t.n, .int .i64 t.p] 63))); have G7 := jj (anw w7 (.cells #[.int .i64 t.k, .string t.s, .int .i64 t.n, .int .i64 t.p] 63)); clear hb7))
  have HD := jj (H11.out.below (br _ _).drew)
  go_region_with (first | (go_at_call 99; refine (HXX.out _ HD.out.st).mono ?_; rintro e w9 ⟨A9, c9, rfl, t9, q9, k9⟩; have H9 := jj (HD.out.next q9 k9); have g9 := zai k9 HD.out.st (G11.out : w11.drew.heap[w7.heap.size]? = _) (by omega); have u3 := zaa g9 3; have v3 := zaa ((Below.heap_alloc w9 (.cells #[.slice A5 a.length c5, .slice A9 b.length c9] 25) _ (age.1 g9).1).trans g9) 3; have u5 := zaa (zai k9 HD.out.st (HC5.out : w11.drew.heap[w6.heap.size]? = _) (by omega)) 0; have HT9 := jj t9; have HT0 := jj ((HT5.out.below (br _ _).drew).fr k9 (fun i hi => by have := ssB HD.out.st hi; omega)); clear t9 q9 k9 g9) | (go_at_call 98; refine (HJN.out w9 _ _ _ _ HT0.out.nodes HT9.out.nodes).mono ?_; rintro e w10 ⟨A7, c7, ps7, rfl, p7, o7, b7⟩; have H10 := jj ((H9.out.below (baw w9 (.cells #[.slice A5 a.length c5, .slice A9 b.length c9] 25))).below b7); have r7 := zaa H10.out.r2 0; have f7 := zac H10.out.r2 0; have T7 := jj ((NPost.tr p7 o7).low (B := w.heap.size + 1) (by have := H9.out.cel.lt; simp; omega)); clear p7 o7 b7))
  all_goals
   go_wp2
   exact bodyPost_ret (res58 _ _ w.heap.size A7 _ c7 rfl (by go_simp)) rfl ⟨A7, c7, rfl, H10.out.cel.out T7.out⟩
 have hn1 := beff.2 hx1
 have HGO1 : Hid (x.go 7 [61, 61] = x /\ x.on 7 [61, 61] = false) := jj ⟨ze3 hn1, hn1⟩
 have hfin : a = tf /\ x = sf := by
  by_cases he : x.err = 0
  ·have hfd : (cmpOps.find? fun o => x.is 7 o.1) = none := by unfold cmpOps; simp [zv4 hn0 he, zv4 hn1 he]
   rw [if_pos he, hfd] at ho2
   cases ho2
   exact ⟨rfl, rfl⟩
  ·rw [if_neg he] at ho2
   cases ho2
   exact ⟨rfl, rfl⟩
 obtain ⟨rfl, rfl⟩ := hfin
 clear hx0 hx1 hn0 hn1 ho2 HX
 go_enter Tryz.func58, Tryz.ntmps58
 go_wp2_with (first | (go_at_call 100; refine (za8 (l := [61, 61]) H8.out.st (zab #[61, 61])).mono ?_; rintro e w11 ⟨rfl, q4, k4⟩; rw [HGO1.out.1] at q4; rw [HGO1.out.2]; have H11 := jj (H8.out.next q4 k4); have G11 := jj (zai k4 H8.out.st G8.out (by omega)); have p3 := zaa G11.out 3; obtain ⟨A5, c5, h5, t5⟩ := H11.out.at_; have p5 := zaa h5 0; have HC5 := jj h5; have HT5 := jj t5; have e2 := zaa H11.out.r2 0; have f3 := zac H11.out.r2 0; clear q4 k4 h5 t5) | (go_at_call 100; refine (za8 (l := [60]) H7.out.st (zab #[60])).mono ?_; rintro e w8 ⟨rfl, q4, k4⟩; rw [HGO0.out.1] at q4; rw [HGO0.out.2]; have H8 := jj (H7.out.next q4 k4); have G8 := jj (zai k4 H7.out.st G7.out (by omega)); clear q4 k4) | (go_at_call 95; refine (za2 (l := w_if) H4.out.st (zab #[105, 102])).mono ?_; rintro e w5 ⟨rfl, q4, k4⟩; rw [HG2.out] at q4; rw [HM2.out]; have H5 := jj (H4.out.next q4 k4); clear q4 k4) | (go_at_call 95; refine (za2 (l := zcf) H3.out.st (zab #[108, 101, 116])).mono ?_; rintro e w4 ⟨rfl, q4, k4⟩; rw [HG1.out] at q4; rw [HM1.out]; have H4 := jj (H3.out.next q4 k4); clear q4 k4) | (go_at_call 95; refine (za2 (l := zb5) HC.out.st (zab #[102, 117, 110])).mono ?_; rintro e w3 ⟨rfl, q4, k4⟩; rw [HG0.out] at q4; rw [HM0.out]; have H3 := jj (HC.out.next q4 k4); clear q4 k4) | (go_at_call 99; refine (X1.out _ H5.out.st).mono ?_; rintro e w6 ⟨A6, c6, rfl, t6, q4, k4⟩; have H6 := jj (H5.out.held t6 q4 k4); obtain ⟨d0, _, _, _, _⟩ := H6.out.st.pcells; have hz6 : w.heap.size < w6.heap.size := lltl H5.out.lt k4.size; clear q4 k4 t6) | (go_at_call 32; refine (za1 H6.out.st).mono ?_; rintro e w7 ⟨rfl, hb7⟩; rw [HT.out]; have hz7 : w6.heap.size < w7.heap.size := (lltl (by simp) hb7.size); have H7 := jj ((H6.out.below hb7).below (baw w7 (.cells #[.int .i64 t.k, .string t.s, .int .i64 t.n, .int .i64 t.p] 63))); have G7 := jj (anw w7 (.cells #[.int .i64 t.k, .string t.s, .int .i64 t.n, .int .i64 t.p] 63)); clear hb7))
 exact bodyPost_ret (res58 _ _ w.heap.size A5 _ c5 rfl (by go_simp)) rfl ⟨A5, c5, rfl, H11.out.out HC5.out⟩
end
open T Go.RowKit
theorem zw4 {B pb rb : Nat} {X : RS -> Ans} (HX : Rdz B pb rb 30 X) (HS : Rdz B pb rb 99 (sumR X)) : Rdi B pb rb X := by
 intro w s p tf sf h ho
 unfold innerR at ho
 by_cases m0 : s.on 1 zb5 = true
 ·rw [if_pos m0] at ho
  exact zn5 HX h m0 ho
 ·rw [if_neg m0] at ho
  have n0 := beff.2 m0
  by_cases m1 : s.on 1 zcf = true
  ·rw [if_pos m1] at ho
   unfold bindR at ho
   by_cases m2 : s.nx.on 1 zdw = true
   ·rw [if_pos m2] at ho
    exact zmz HX h n0 m1 m2 ho
   ·rw [if_neg m2] at ho
    exact zpg HX h n0 m1 (beff.2 m2) ho
  ·rw [if_neg m1] at ho
   have n1 := beff.2 m1
   by_cases m2 : s.on 1 w_if = true
   ·rw [if_pos m2] at ho
    exact zrx HX h n0 n1 m2 ho
   ·rw [if_neg m2] at ho
    exact zqn HS h n0 n1 (beff.2 m2) ho
open T Go.RowKit
theorem zhp (B pb rb : Nat) : ∀ f, Rdz B pb rb 30 (exprQ f) := by
 intro f
 induction f with
 | zero => intro w s t s' _ ho; cases ho
 | succ f ih =>
  intro w s t s' h ho
  by_cases he : s.err = 0
  ·by_cases hd : 100 <= s.d
   ·exact znq h he hd ho
   ·exact zqb (zw4 ih (z1m (zzm (z1n (zyi (z0n ih (z1d ih) (z1w ih))))))) h he hd ho
  ·exact zsl h he ho
end Go.Proofs.YtjakeidbajkdcaaGreatDoor.B
