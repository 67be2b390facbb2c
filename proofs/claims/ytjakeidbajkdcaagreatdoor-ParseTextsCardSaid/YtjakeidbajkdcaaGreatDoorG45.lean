/- Joined by program. -/
import Derived.Test.YtjakeidbajkdcaaGreatDoorG44
import Derived.Deep.LoopGhost
import Derived.Deep.RegionHeld3
set_option maxRecDepth 100000
set_option maxHeartbeats 16000000
namespace Go.Proofs.YtjakeidbajkdcaaGreatDoor.B
open T Go.RowKit Go.Shelf
open A (Fr)
attribute [local go_sem] A.zat A.zau A.zas
section
variable {B pb rb : Nat} {w w' W : World} {s s' : RS}
theorem ssB {k : Nat} (h : Qs B pb rb w s) (hk : SS pb rb k) : k < B := by
 have := h.hpb; have := h.hrb
 rcases hk with rfl | rfl <;> omega
structure Held (B pb rb : Nat) (w W : World) (k3 : Nat) (t : List Nd) (s : RS) : Prop where
 st : Qs B pb rb W s
 fr : Fr (SS pb rb) w W
 r2 : W.heap[w.heap.size]? = some (.cells #[.slice none 0 0] 25 (0, 0))
 at_ : ∃ A c, W.heap[k3]? = some (.cells #[.slice A t.length c] 25 (0, 0)) /\ Tr (w.heap.size + 1) W (.slice A t.length c) t
 k3 : w.heap.size < k3
 B1 : B <= w.heap.size
theorem Held.next {k3 : Nat} {t : List Nd} (h : Held B pb rb w W k3 t s) (h' : Qs B pb rb w' s') (k : Fr (SS pb rb) W w') : Held B pb rb w w' k3 t s' := by
 obtain ⟨h1, h2, h3, ⟨A, c, h4, h5⟩, h6, h7⟩ := h
 exact ⟨h', h2.trans k, zai k h1 h3 h7, ⟨A, c, zai k h1 h4 (by omega), h5.fr k fun i hi => by have := ssB h1 hi; omega⟩, h6, h7⟩
theorem Held.below {k3 : Nat} {t : List Nd} (h : Held B pb rb w W k3 t s) (hb : Below W.heap.size W w') : Held B pb rb w w' k3 t s := h.next (h.st.below hb) (zba hb)
theorem Held.put {k3 : Nat} {t t' : List Nd} {A' : Option Addr} {c' : Nat} (h : Held B pb rb w W k3 t s) {W0 : World} (hb : Below W0.heap.size W0 w') (h0 : Below W.heap.size W W0) (ht : Tr W0.heap.size w' (.slice A' t'.length c') t') : Held B pb rb w (w'.setCell ⟨k3, 0, none⟩ (.slice A' t'.length c')) k3 t' s := by
 have h' := (h.below h0).below hb
 obtain ⟨A, c, h4, h5⟩ := (h.below h0).at_
 have hlt : k3 < W0.heap.size := (age.1 h4).1
 obtain ⟨h1, h2, h3, ⟨A, c, h4, h5⟩, h6, h7⟩ := h'
 refine ⟨h1.far (by omega) _, h2.set _ (.inr (by omega)), (zaf _ _ _ _ _ (by omega)).trans h3, ⟨A', c', (zaq h4).trans rfl, (ht.set _ hlt).low (by omega)⟩, h6, h7⟩
theorem Held.out {k3 : Nat} {t : List Nd} (h : Held B pb rb w W k3 t s) {A : Option Addr} {c : Nat} (hc : W.heap[k3]? = some (.cells #[.slice A t.length c] 25 (0, 0))) : Tr w.heap.size (W.setCell ⟨w.heap.size, 0, none⟩ (.slice A t.length c)) (.slice A t.length c) t /\ Qs B pb rb (W.setCell ⟨w.heap.size, 0, none⟩ (.slice A t.length c)) s /\ Fr (SS pb rb) w (W.setCell ⟨w.heap.size, 0, none⟩ (.slice A t.length c)) := by
 obtain ⟨h1, h2, h3, ⟨A', c', h4, h5⟩, h6, h7⟩ := h
 rw [h4] at hc
 simp only [Option.some.injEq, Obj.cells.injEq, Array.mk.injEq, List.cons.injEq, Value.slice.injEq, and_true, true_and] at hc
 obtain ⟨rfl, rfl⟩ := hc
 exact ⟨(h5.set _ (Nat.lt_succ_self _)).low (Nat.le_succ _), h1.far h7 _, h2.set _ (.inr (lrf _))⟩
theorem held0 {a0 : List Nd} {s0 : RS} {w1 : World} {A1 : Option Addr} {c1 : Nat} (h : Qs B pb rb w s) (t1 : Tr (w.alloc (.cells #[.slice none 0 0] 25)).heap.size w1 (.slice A1 a0.length c1) a0) (q1 : Qs B pb rb w1 s0) (k1 : Fr (SS pb rb) (w.alloc (.cells #[.slice none 0 0] 25)) w1) : Held B pb rb w (w1.alloc (.cells #[.slice A1 a0.length c1] 25)) w1.heap.size a0 s0 := by
 have hb : Below w1.heap.size w1 (w1.alloc (.cells #[.slice A1 a0.length c1] 25)) := baw w1 _
 have hsz := k1.size
 rw [World.size_alloc] at hsz
 refine ⟨q1.below hb, ((Fr.alloc w _).trans k1).trans (zba hb), ?_, ⟨A1, c1, anw w1 _, ?_⟩, by omega, h.hB⟩
 ·rw [hb.block _ (by omega)]
  exact zai k1 h (anw w _) h.hB
 ·rw [World.size_alloc] at t1; exact t1.below hb
theorem res183 (tmps : Array Value) (W : World) (p : Nat) (A : Option Addr) (n c : Nat) (h2 : tmps[2]?.getD undef = .pointer (some ⟨p, 0, none⟩)) (hb : W.cell? ⟨p, 0, none⟩ = some (.slice A n c)) :
  Sem.run Tryz.prog (results Tryz.f183 tmps) W = .ok (.agg #[.slice A n c]) W := by
 simp [results, Tryz.results183, go_sem, h2, hb]
theorem NPost.tr {N : List Nd} {W0 W : World} {A : Option Addr} {c : Nat} {ps : List (Nd × Value)} (h1 : ps.map Prod.fst = N) (h2 : OwnN W0.heap.size W (.slice A N.length c) ps) : Tr W0.heap.size W (.slice A N.length c) N := ⟨ps, h1, h2⟩
theorem zyi {X : RS -> Ans} (HA : Rdz B pb rb 201 (atomR X)) : Rdz B pb rb 183 (postR X) := by
 intro w s tf sf h ho
 obtain ⟨a0, s0, h1, h2⟩ := bind_some ho
 have hB0 : Below w.heap.size w (w.alloc (.cells #[.slice none 0 0] 25)) := baw w _
 have HA0 := jj (HA (w.alloc (.cells #[.slice none 0 0] 25)) s _ _ (h.alloc _) h1)
 have HL := jj h2
 have H := jj h
 clear h ho h1 h2 HA hB0
 go_enter Tryz.func183, Tryz.ntmps183
 go_wp2_with (go_at_call 201; refine HA0.out.mono ?_; rintro e w1 ⟨A1, c1, rfl, t1, q1, k1⟩; have H1 := jj (held0 H.out t1 q1 k1); clear t1 q1 k1)
 go_loopg [] (s0.l.length + 1) (fun n wr => ∃ (a : List Nd) (x : RS), Hid (Held B pb rb w wr w1.heap.size a x) /\ Hid (postL n a x = some (tf, sf)))
 case atStart => exact ⟨a0, s0, H1, HL⟩
 case round =>
  obtain ⟨a, x, HS, HPP⟩ := hrel
  cases gk with
  | zero => have := HPP.out; simp [postL] at this
  | succ m =>
   have hp := HPP.out
   rw [postL] at hp
   obtain ⟨c0, c1, c2, c3, cf⟩ := HS.out.st.pcells
   have hk3 := HS.out.k3
   have hB1 := HS.out.B1
   obtain ⟨A, c, hr3, _⟩ := HS.out.at_
   have HR3 := jj hr3
   have r3 := zaa hr3 0
   have r2 := zaa HS.out.r2 0
   have f2 := zac HS.out.r2 0
   clear hr3 cf
   by_cases he : x.err = 0
   ·have hz : (x.err == 0) = true := by simpa using he
    by_cases hx : x.on 7 zeg = true
    ·rw [if_pos hx] at hp
     obtain ⟨a1, s1, e1, e2⟩ := bind_some hp
     obtain ⟨hJ, rfl, rfl⟩ := zam e1
     have HE2 := jj e2
     have hgo : x.go 7 zeg = x.nx := by unfold RS.go; rw [if_pos hx]
     have HX := jj hx
     have HGO := jj hgo
     have HJ := jj hJ
     clear hp e1 e2 hgo hx hJ
     obtain ⟨nm, hnm⟩ : ∃ nm, (x.nx.off 2).1 = nm := ⟨_, rfl⟩
     obtain ⟨t, ht⟩ : ∃ t, x.pk = t := ⟨_, rfl⟩
     have HNM := jj hnm
     have HT := jj ht
     rw [hnm, ht] at HJ HE2
     clear hnm ht
     have HJN : Hid (∀ (W : World) (A : Option Addr) (c : Nat), Nodes W.heap.size W (.slice A a.length c) a -> Calls Tryz.prog 98 #[.agg #[.int .i64 12, .int .i64 0, .int .i64 0, .int .i64 0, .int .i64 0, .string nm, .string ⟨#[]⟩, .slice none 0 0, .int .i64 t.p], .slice (some ⟨W.heap.size, 0, none⟩) 1 1] (W.alloc (.cells #[.slice A a.length c] 25)) (NPost (joinN { mk 12 t.p with nm := nm } [a]) (W.alloc (.cells #[.slice A a.length c] 25)))) := jj fun W A c h => zh3 rfl HJ.out h
     obtain ⟨T, hT⟩ : ∃ T, joinN { mk 12 t.p with nm := nm } [a] = T := ⟨_, rfl⟩
     rw [hT] at HJN HE2
     clear hT
     go_wp2_with (first | (go_at_call 32; refine (za1 HS.out.st).mono ?_; rintro e w3 ⟨rfl, hb3⟩; rw [HT.out]; have H3 := jj ((HS.out.below hb3).below (baw w3 (.cells #[.int .i64 t.k, .string t.s, .int .i64 t.n, .int .i64 t.p] 63))); have hz3 := ltr HS.out.fr.size hb3.size; clear hb3) | (go_at_call 100; refine (za8 (l := zeg) H3.out.st (zab #[46])).mono ?_; rintro e w4 ⟨rfl, q4, k4⟩; rw [HGO.out] at q4; rw [HX.out]; have H4 := jj (H3.out.next q4 k4); have g3 := zai k4 H3.out.st (anw w3 (.cells #[.int .i64 t.k, .string t.s, .int .i64 t.n, .int .i64 t.p] 63)) (by omega); have G4 := jj g3; clear q4 k4 g3) | (go_at_call 96; refine (zfs H4.out.st 2).mono ?_; rintro e w5 ⟨rfl, q5, k5⟩; rw [HNM.out]; have H5 := jj (H4.out.next q5 k5); have g3 := zai k5 H4.out.st G4.out (by omega); have p3 := zaa g3 3; obtain ⟨A5, c5, h5, t5⟩ := H5.out.at_; have p5 := zaa h5 0; have HC5 := jj h5; have HT5 := jj t5; clear q5 k5 g3 h5 t5) | (go_at_call 98; refine (HJN.out w5 A5 c5 HT5.out.nodes).mono ?_; rintro e w7 ⟨A7, c7, ps7, rfl, p7, o7, b7⟩; have H7 := jj (H5.out.put b7 (baw w5 _) (NPost.tr p7 o7)); obtain ⟨A8, c8, h8, _⟩ := ((H5.out.below (baw w5 (.cells #[.slice A5 a.length c5] 25))).below b7).at_; have d7 := zaa h8 0; have d8 := zac h8 0; clear p7 o7 b7 h8))
     go_roundg m
     case measure => omega
     case rel => exact ⟨T, _, H7, HE2⟩
    ·have hxf := beff.2 hx
     rw [if_neg hx] at hp
     cases hp
     have hgo : sf.go 7 zeg = sf := by unfold RS.go; rw [if_neg hx]
     have HX := jj hxf
     have HGO := jj hgo
     clear hgo hx hxf
     obtain ⟨t, ht⟩ : ∃ t, sf.pk = t := ⟨_, rfl⟩
     have HT := jj ht
     clear ht
     go_wp2_with (first | (go_at_call 32; refine (za1 HS.out.st).mono ?_; rintro e w3 ⟨rfl, hb3⟩; rw [HT.out]; have H3 := jj ((HS.out.below hb3).below (baw w3 (.cells #[.int .i64 t.k, .string t.s, .int .i64 t.n, .int .i64 t.p] 63))); clear hb3) | (go_at_call 100; refine (za8 (l := zeg) H3.out.st (zab #[46])).mono ?_; rintro e w4 ⟨rfl, q4, k4⟩; rw [HGO.out] at q4; rw [HX.out]; have h4 := H3.out.next q4 k4; obtain ⟨A5, c5, h5, t5⟩ := h4.at_; have p5 := zaa h5 0; have e2 := zaa h4.r2 0; have f3 := zac h4.r2 0; have HC5 := jj h5; have H4 := jj h4; clear q4 k4 h4 h5 t5))
     exact bodyPost_ret (res183 _ _ w.heap.size A5 _ c5 rfl (by go_simp)) rfl ⟨A5, c5, rfl, H4.out.out HC5.out⟩
   ·have hz : (x.err == 0) = false := by simpa using he
    have hx : x.on 7 zeg = false := by unfold RS.on; simp [he]
    rw [if_neg (by rw [hx]; decide)] at hp
    cases hp
    clear hx
    go_wp2
    exact bodyPost_ret (res183 _ _ w.heap.size A _ c rfl (by go_simp)) rfl ⟨A, c, rfl, HS.out.out HR3.out⟩
end
open T Go.RowKit Go.Shelf
open A (Fr)
section
variable {B pb rb : Nat} {w w' W : World} {s s' : RS}
structure Cel (B pb rb : Nat) (w W : World) (s : RS) : Prop where
 st : Qs B pb rb W s
 fr : Fr (SS pb rb) w W
 r2 : W.heap[w.heap.size]? = some (.cells #[.slice none 0 0] 25 (0, 0))
 B1 : B <= w.heap.size
theorem Cel.made (h : Qs B pb rb w s) : Cel B pb rb w (w.alloc (.cells #[.slice none 0 0] 25)) s := ⟨h.alloc _, Fr.alloc w _, anw w _, h.hB⟩
theorem Cel.next (h : Cel B pb rb w W s) (h' : Qs B pb rb w' s') (k : Fr (SS pb rb) W w') : Cel B pb rb w w' s' := ⟨h', h.fr.trans k, zai k h.st h.r2 h.B1, h.B1⟩
theorem Cel.below (h : Cel B pb rb w W s) (hb : Below W.heap.size W w') : Cel B pb rb w w' s := h.next (h.st.below hb) (zba hb)
theorem Cel.lt (h : Cel B pb rb w W s) : w.heap.size < W.heap.size := (age.1 h.r2).1
theorem Cel.out (h : Cel B pb rb w W s) {A : Option Addr} {c : Nat} {t : List Nd} (ht : Tr (w.heap.size + 1) W (.slice A t.length c) t) : Tr w.heap.size (W.setCell ⟨w.heap.size, 0, none⟩ (.slice A t.length c)) (.slice A t.length c) t /\ Qs B pb rb (W.setCell ⟨w.heap.size, 0, none⟩ (.slice A t.length c)) s /\ Fr (SS pb rb) w (W.setCell ⟨w.heap.size, 0, none⟩ (.slice A t.length c)) :=
 ⟨(ht.set _ (Nat.lt_succ_self _)).low (Nat.le_succ _), h.st.far h.B1 _, h.fr.set _ (.inr (lrf _))⟩
theorem Cel.held {a0 : List Nd} {s0 : RS} {V w4 : World} {A1 : Option Addr} {c1 : Nat} (h : Cel B pb rb w V s) (t1 : Tr V.heap.size w4 (.slice A1 a0.length c1) a0) (q1 : Qs B pb rb w4 s0) (k1 : Fr (SS pb rb) V w4) : Held B pb rb w (w4.alloc (.cells #[.slice A1 a0.length c1] 25)) w4.heap.size a0 s0 := by
 have hb : Below w4.heap.size w4 (w4.alloc (.cells #[.slice A1 a0.length c1] 25)) := baw w4 _
 have h4 := (h.next q1 k1)
 have hl := h.lt
 have hs := k1.size
 exact ⟨h4.st.below hb, h4.fr.trans (zba hb), by rw [hb.block _ h4.lt]; exact h4.r2, ⟨A1, c1, anw w4 _, (t1.below hb).low hl⟩, by omega, h.B1⟩
theorem Held.last {k3 : Nat} {a : List Nd} {y : Nd} (h : Held B pb rb w W k3 a s) (hy : a.getLast? = some y) : ∃ g o c, W.heap[k3]? = some (.cells #[.slice (some ⟨g, o, none⟩) a.length c] 25 (0, 0)) /\ Tr (w.heap.size + 1) W (.slice (some ⟨g, o, none⟩) a.length c) a /\ W.cell? ⟨g, o + (a.length - 1) * 9 + 8, none⟩ = some (.int .i64 y.pos) /\ 0 < a.length /\ a.length <= 9223372036854775807 := by
 obtain ⟨A, c, h1, h2⟩ := h.at_
 have h0 : 0 < a.length := by cases a with
  | nil => simp at hy
  | cons _ _ => simp
 have hl : a[a.length - 1]? = some y := by rw [<- List.getLast?_eq_getElem?]; exact hy
 obtain ⟨A', c', e, hc, _, hq⟩ := h2.nodes
 obtain ⟨g, o, rfl, _, hf⟩ := hq h0
 simp only [Value.slice.injEq, true_and] at e
 obtain ⟨rfl, rfl⟩ := e
 obtain ⟨_, _, _, _, _, _, _, _, _, _, m8⟩ := hf _ y hl
 exact ⟨g, o, c, h1, h2, m8, h0, by omega⟩
end
open T Go.RowKit Go.Shelf
open A (Fr)
attribute [local go_sem] A.zat A.zau A.zas
section
variable {B pb rb : Nat} {w w' W : World} {s s' : RS}
def Rdi (B pb rb : Nat) (X : RS -> Ans) : Prop := ∀ w s p t s', Qs B pb rb w s -> innerR X p s = some (t, s') -> Calls Tryz.prog 58 #[.pointer (some ⟨pb, 0, none⟩), .int .i64 p] w (TP B pb rb w t s')
theorem res30 (tmps : Array Value) (W : World) (p : Nat) (A : Option Addr) (n c : Nat) (h2 : tmps[2]?.getD undef = .pointer (some ⟨p, 0, none⟩)) (hb : W.cell? ⟨p, 0, none⟩ = some (.slice A n c)) :
  Sem.run Tryz.prog (results Tryz.f30 tmps) W = .ok (.agg #[.slice A n c]) W := by
 simp [results, Tryz.results30, go_sem, h2, hb]
theorem Cel.deep (h : Cel B pb rb w W s) (d : Nat) : Cel B pb rb w (W.setCell ⟨pb, 3, none⟩ (.int .i64 (d : Int))) { s with d := d } :=
 ⟨h.st.deep_ d, h.fr.set _ (.inl (.inl rfl)), (zaf _ _ _ _ _ (by have := h.st.hpb; have := h.B1; omega)).trans h.r2, h.B1⟩
theorem Held.deep {k3 : Nat} {t : List Nd} (h : Held B pb rb w W k3 t s) (d : Nat) : Held B pb rb w (W.setCell ⟨pb, 3, none⟩ (.int .i64 (d : Int))) k3 t { s with d := d } := by
 obtain ⟨h1, h2, h3, ⟨A, c, h4, h5⟩, h6, h7⟩ := h
 have hp := h1.hpb
 exact ⟨h1.deep_ d, h2.set _ (.inl (.inl rfl)), (zaf _ _ _ _ _ (by omega)).trans h3, ⟨A, c, (zaf _ _ _ _ _ (by omega)).trans h4, h5.set _ (by omega)⟩, h6, h7⟩
theorem zsl {f : Nat} {tf : List Nd} {sf : RS} (h : Qs B pb rb w s) (he : s.err ≠ 0) (ho : exprQ (f + 1) s = some (tf, sf)) : Calls Tryz.prog 30 #[.pointer (some ⟨pb, 0, none⟩)] w (TP B pb rb w tf sf) := by
 rw [exprQ, if_neg he] at ho
 cases ho
 have hz : (s.err != 0) = true := by simpa using he
 have hc := Cel.made h
 obtain ⟨c0, c1, c2, c3, cf⟩ := hc.st.pcells
 have HC := jj hc
 clear h he hc cf
 go_enter Tryz.func30, Tryz.ntmps30
 go_wp2_with (go_at_call 57; refine (zd3 _).mono ?_; rintro e w1 ⟨A1, c1, ps, rfl, p1, o1, b1⟩; have H1 := jj (HC.out.below b1); have r2 := zaa H1.out.r2 0; have f2 := zac H1.out.r2 0; have T1 := jj ((NPost.tr p1 o1).low (B := w.heap.size + 1) HC.out.lt); clear p1 o1 b1)
 exact bodyPost_ret (res30 _ _ w.heap.size A1 _ c1 rfl (by go_simp)) rfl ⟨A1, c1, rfl, H1.out.out T1.out⟩
theorem znq {f : Nat} {tf : List Nd} {sf : RS} (h : Qs B pb rb w s) (he : s.err = 0) (hd : 100 <= s.d) (ho : exprQ (f + 1) s = some (tf, sf)) : Calls Tryz.prog 30 #[.pointer (some ⟨pb, 0, none⟩)] w (TP B pb rb w tf sf) := by
 rw [exprQ, if_pos he, if_pos hd] at ho
 cases ho
 have hz : (s.err != 0) = false := by simpa using he
 have hd' : decide ((100 : Int) <= (s.d : Int)) = true := decide_eq_true (by omega)
 have hc := Cel.made h
 obtain ⟨c0, c1, c2, c3, cf⟩ := hc.st.pcells
 have HC := jj hc
 obtain ⟨t, ht⟩ : ∃ t, s.pk = t := ⟨_, rfl⟩
 rw [ht]
 have HT := jj ht
 clear h he hd hc cf ht
 go_enter Tryz.func30, Tryz.ntmps30
 go_wp2_with (first | (go_at_call 32; refine (za1 HC.out.st).mono ?_; rintro e w3 ⟨rfl, hb3⟩; rw [HT.out]; have H3 := jj (HC.out.below hb3); obtain ⟨d0, d1, d2, d3, df⟩ := H3.out.st.pcells; clear hb3 df) | (go_at_call 31; refine (zfn H3.out.st 6 t.p).mono ?_; rintro e w4 ⟨rfl, q4, k4⟩; have H4 := jj (H3.out.next q4 k4); clear q4 k4) | (go_at_call 57; refine (zd3 _).mono ?_; rintro e w1 ⟨A1, c1, ps, rfl, p1, o1, b1⟩; have H1 := jj (H4.out.below b1); have r2 := zaa H1.out.r2 0; have f2 := zac H1.out.r2 0; have T1 := jj ((NPost.tr p1 o1).low (B := w.heap.size + 1) H4.out.lt); clear p1 o1 b1))
 exact bodyPost_ret (res30 _ _ w.heap.size A1 _ c1 rfl (by go_simp)) rfl ⟨A1, c1, rfl, H1.out.out T1.out⟩
theorem zqb {f : Nat} (HI : Rdi B pb rb (exprQ f)) {tf : List Nd} {sf : RS} (h : Qs B pb rb w s) (he : s.err = 0) (hd : ¬ 100 <= s.d) (ho : exprQ (f + 1) s = some (tf, sf)) : Calls Tryz.prog 30 #[.pointer (some ⟨pb, 0, none⟩)] w (TP B pb rb w tf sf) := by
 rw [exprQ, if_pos he, if_neg hd] at ho
 obtain ⟨a, s1, e1, e2⟩ := bind_some ho
 split at e2
 ·rename_i hb
  cases e2
  have hz : (s.err != 0) = false := by simpa using he
  have hd' : decide ((100 : Int) <= (s.d : Int)) = false := decide_eq_false (by omega)
  have hc := Cel.made h
  obtain ⟨c0, c1, c2, c3, cf⟩ := hc.st.pcells
  have HC := jj hc
  obtain ⟨t, ht⟩ : ∃ t, s.pk = t := ⟨_, rfl⟩
  rw [ht] at e1
  have HT := jj ht
  have HXX : Hid (∀ W, Qs B pb rb W { s with d := s.d + 1 } -> Calls Tryz.prog 58 #[.pointer (some ⟨pb, 0, none⟩), .int .i64 t.p] W (TP B pb rb W a s1)) := jj fun W hW => HI W _ _ _ _ hW e1
  obtain ⟨d, hdd⟩ : ∃ d, s.d = d := ⟨_, rfl⟩
  obtain ⟨d1, hd1⟩ : ∃ d1, s1.d = d1 := ⟨_, rfl⟩
  rw [hdd] at c3 hd hd' HXX
  rw [hd1] at hb
  have HDD := jj hdd
  have HD1 := jj hd1
  have hlt : d < 100 := by omega
  have cst : ((d + 1 : Nat) : Int) = (d : Int) + 1 := by omega
  have hge : 1 <= d1 := hb.1
  have cst1 : ((d1 - 1 : Nat) : Int) = (d1 : Int) - 1 := by omega
  have hb1 := hb.1
  have hb2 := hb.2
  clear h he hd hc cf ht e1 HI ho hb hdd hd1
  go_enter Tryz.func30, Tryz.ntmps30
  go_wp2_with (first | (go_at_call 32; refine (za1 HC.out.st).mono ?_; rintro e w3 ⟨rfl, hb3⟩; rw [HT.out]; have H3 := jj (HC.out.below hb3); obtain ⟨x0, x1, x2, x3, xf⟩ := H3.out.st.pcells; rw [HDD.out] at x3; have xf3 := xf 3; have hx := H3.out.deep (d + 1); rw [cst] at hx; have HX3 := jj hx; clear hb3 xf hx) | (go_at_call 58; refine (HXX.out _ HX3.out.st).mono ?_; rintro e w4 ⟨A4, c4, rfl, t4, q4, k4⟩; have H4 := jj (HX3.out.held t4 q4 k4); obtain ⟨y0, y1, y2, y3, yf⟩ := H4.out.st.pcells; rw [HD1.out] at y3; have yf3 := yf 3; have hx := H4.out.deep (d1 - 1); rw [cst1] at hx; have HX5 := jj hx; obtain ⟨A5, c5, h5, _⟩ := HX5.out.at_; have r5 := zaa h5 0; have r2 := zaa HX5.out.r2 0; have f2 := zac HX5.out.r2 0; have HC5 := jj h5; clear t4 q4 k4 yf hx h5))
  rw [HD1.out]
  exact bodyPost_ret (res30 _ _ w.heap.size A5 _ c5 rfl (by go_simp)) rfl ⟨A5, c5, rfl, HX5.out.out HC5.out⟩
 ·cases e2
end
open T Go.RowKit Go.Shelf
open A (Fr)
attribute [local go_sem] A.zat A.zau A.zas
section
variable {B pb rb : Nat} {w w' W : World} {s s' : RS}
theorem res163 (tmps : Array Value) (W : World) (p : Nat) (A : Option Addr) (n c : Nat) (h2 : tmps[2]?.getD undef = .pointer (some ⟨p, 0, none⟩)) (hb : W.cell? ⟨p, 0, none⟩ = some (.slice A n c)) :
  Sem.run Tryz.prog (results Tryz.f163 tmps) W = .ok (.agg #[.slice A n c]) W := by
 simp [results, Tryz.results163, go_sem, h2, hb]
theorem zxl {X : RS -> Ans} {tf : List Nd} {sf : RS} (h : Qs B pb rb w s) (he : s.err ≠ 0) (ho : appR X s = some (tf, sf)) : Calls Tryz.prog 163 #[.pointer (some ⟨pb, 0, none⟩)] w (TP B pb rb w tf sf) := by
 unfold appR at ho
 rw [if_neg he] at ho
 cases ho
 have hz : (s.err != 0) = true := by simpa using he
 have hc := Cel.made h
 obtain ⟨c0, c1, c2, c3, cf⟩ := hc.st.pcells
 have HC := jj hc
 clear h he hc cf
 go_enter Tryz.func163, Tryz.ntmps163
 go_wp2_with (go_at_call 57; refine (zd3 _).mono ?_; rintro e w1 ⟨A1, c1, ps, rfl, p1, o1, b1⟩; have H1 := jj (HC.out.below b1); have r2 := zaa H1.out.r2 0; have f2 := zac H1.out.r2 0; have T1 := jj ((NPost.tr p1 o1).low (B := w.heap.size + 1) HC.out.lt); clear p1 o1 b1)
 exact bodyPost_ret (res163 _ _ w.heap.size A1 _ c1 rfl (by go_simp)) rfl ⟨A1, c1, rfl, H1.out.out T1.out⟩
theorem zke {X : RS -> Ans} (HA : Rdz B pb rb 183 (postR X)) {tf : List Nd} {sf : RS} (h : Qs B pb rb w s) (he : s.err = 0) (hk : s.pk.k = 3) (ho : appR X s = some (tf, sf)) : Calls Tryz.prog 163 #[.pointer (some ⟨pb, 0, none⟩)] w (TP B pb rb w tf sf) := by
 unfold appR at ho
 rw [if_pos he, if_pos hk] at ho
 obtain ⟨a, s1, e1, e2⟩ := bind_some ho
 obtain ⟨hJ, hT, rfl⟩ := zam e2
 have hz : (s.err != 0) = false := by simpa using he
 have hc := Cel.made h
 obtain ⟨c0, c1, c2, c3, cf⟩ := hc.st.pcells
 have HC := jj hc
 obtain ⟨t, ht⟩ : ∃ t, s.pk = t := ⟨_, rfl⟩
 rw [ht] at hJ hT hk
 have HT := jj ht
 have HJN : Hid (∀ (W : World) (A : Option Addr) (c : Nat), Nodes W.heap.size W (.slice A a.length c) a -> Calls Tryz.prog 98 #[.agg #[.int .i64 13, .int .i64 0, .int .i64 0, .int .i64 0, .int .i64 0, .string t.s, .string ⟨#[]⟩, .slice none 0 0, .int .i64 t.p], .slice (some ⟨W.heap.size, 0, none⟩) 1 1] (W.alloc (.cells #[.slice A a.length c] 25)) (NPost tf (W.alloc (.cells #[.slice A a.length c] 25)))) := jj fun W A c h => by rw [hT]; exact zh3 rfl hJ h
 have HXX : Hid (∀ W, Qs B pb rb W s.nx -> Calls Tryz.prog 183 #[.pointer (some ⟨pb, 0, none⟩)] W (TP B pb rb W a sf)) := jj fun W hW => HA W _ _ _ hW e1
 have hkk : (t.k == 3) = true := by simpa using hk
 clear h he hc cf ho e1 e2 hJ hT ht hk HA
 go_enter Tryz.func163, Tryz.ntmps163
 go_wp2_with (first | (go_at_call 32; refine (za1 HC.out.st).mono ?_; rintro e w3 ⟨rfl, hb3⟩; rw [HT.out]; have H3 := jj ((HC.out.below hb3).below (baw w3 (.cells #[.int .i64 t.k, .string t.s, .int .i64 t.n, .int .i64 t.p] 63))); have G3 := jj (anw w3 (.cells #[.int .i64 t.k, .string t.s, .int .i64 t.n, .int .i64 t.p] 63)); have hz3 := ltr HC.out.fr.size hb3.size; obtain ⟨d0, d1, d2, d3, df⟩ := H3.out.st.pcells; clear hb3 df) | (go_at_call 135; refine (zjk H3.out.st).mono ?_; rintro e w4 ⟨rfl, q4, k4⟩; have H4 := jj (H3.out.next q4 k4); have G4 := jj (zai k4 H3.out.st G3.out (by have := HC.out.B1; omega)); have p1 := zaa G4.out 1; have p3 := zaa G4.out 3; clear q4 k4))
 have HD := jj (H4.out.below (br _ _).drew)
 go_region_with (first | (go_at_call 183; refine (HXX.out _ HD.out.st).mono ?_; rintro e w9 ⟨A9, c9, rfl, t9, q9, k9⟩; have H9 := jj (HD.out.next q9 k9); have g9 := zai k9 HD.out.st (G4.out : w4.drew.heap[w3.heap.size]? = _) (by have := HC.out.B1; omega); have u1 := zaa g9 1; have u3 := zaa g9 3; have g8 := (Below.heap_alloc w9 (.cells #[.slice A9 a.length c9] 25) _ (age.1 g9).1).trans g9; have v1 := zaa g8 1; have v3 := zaa g8 3; have HT9 := jj t9; clear t9 q9 k9 g9 g8) | (go_at_call 98; refine (HJN.out w9 _ _ HT9.out.nodes).mono ?_; rintro e w7 ⟨A7, c7, ps7, rfl, p7, o7, b7⟩; have H7 := jj ((H9.out.below (baw w9 (.cells #[.slice A9 a.length c9] 25))).below b7); have r7 := zaa H7.out.r2 0; have f7 := zac H7.out.r2 0; have T7 := jj ((NPost.tr p7 o7).low (B := w.heap.size + 1) (by have := H9.out.lt; simp; omega)); clear p7 o7 b7))
 all_goals
  go_wp2
  exact bodyPost_ret (res163 _ _ w.heap.size A7 _ c7 rfl (by go_simp)) rfl ⟨A7, c7, rfl, H7.out.out T7.out⟩
end
open T Go.RowKit Go.Shelf
open A (Fr)
attribute [local go_sem] A.zat A.zau A.zas
section
variable {B pb rb : Nat} {w w' W : World} {s s' : RS}
theorem zia {X : RS -> Ans} (HA : Rdz B pb rb 183 (postR X)) {tf : List Nd} {sf : RS} (h : Qs B pb rb w s) (he : s.err = 0) (hk : s.pk.k ≠ 3) (ho : appR X s = some (tf, sf)) : Calls Tryz.prog 163 #[.pointer (some ⟨pb, 0, none⟩)] w (TP B pb rb w tf sf) := by
 unfold appR at ho
 rw [if_pos he, if_neg hk] at ho
 obtain ⟨a0, s0, e1, e2⟩ := bind_some ho
 have hz : (s.err != 0) = false := by simpa using he
 have hc := Cel.made h
 obtain ⟨c0, c1, c2, c3, cf⟩ := hc.st.pcells
 have HC := jj hc
 obtain ⟨t, ht⟩ : ∃ t, s.pk = t := ⟨_, rfl⟩
 rw [ht] at hk
 have HT := jj ht
 have HXX : Hid (∀ W, Qs B pb rb W s -> Calls Tryz.prog 183 #[.pointer (some ⟨pb, 0, none⟩)] W (TP B pb rb W a0 s0)) := jj fun W hW => HA W _ _ _ hW e1
 have hkk : (t.k == 3) = false := by simpa using hk
 have HAX := jj HA
 have HL := jj e2
 clear h he hc cf ho e1 e2 ht hk HA
 go_enter Tryz.func163, Tryz.ntmps163
 go_wp2_with (first | (go_at_call 32; refine (za1 HC.out.st).mono ?_; rintro e w3 ⟨rfl, hb3⟩; rw [HT.out]; have H3 := jj ((HC.out.below hb3).below (baw w3 (.cells #[.int .i64 t.k, .string t.s, .int .i64 t.n, .int .i64 t.p] 63))); clear hb3) | (go_at_call 183; refine (HXX.out _ H3.out.st).mono ?_; rintro e w4 ⟨A4, c4, rfl, t4, q4, k4⟩; have H4 := jj (H3.out.held t4 q4 k4); clear t4 q4 k4))
 clear c0 c1 c2 c3 hz hkk
 go_loopg [] (s0.l.length + 1) (fun n wr => ∃ (a : List Nd) (x : RS), Hid (Held B pb rb w wr w4.heap.size a x) /\ Hid (appL (postR X) n a x = some (tf, sf)))
 case atStart => exact ⟨a0, s0, H4, HL⟩
 case round =>
  obtain ⟨a, x, HS, HPP⟩ := hrel
  cases gk with
  | zero => have := HPP.out; simp [appL] at this
  | succ m =>
   have hp := HPP.out
   rw [appL, zy2] at hp
   obtain ⟨c0, c1, c2, c3, cf⟩ := HS.out.st.pcells
   have hk3 := HS.out.k3
   have hB1 := HS.out.B1
   obtain ⟨A, c, hr3, _⟩ := HS.out.at_
   have HR3 := jj hr3
   have r3 := zaa hr3 0
   have r2 := zaa HS.out.r2 0
   have f2 := zac HS.out.r2 0
   clear hr3 cf
   by_cases he : x.err = 0
   ·have hz : (x.err == 0) = true := by simpa using he
    rw [decide_eq_true he, Bool.true_and] at hp
    obtain ⟨t', ht'⟩ : ∃ t', x.pk = t' := ⟨_, rfl⟩
    have HT' := jj ht'
    rw [ht'] at hp
    clear ht'
    cases hb : begT t' with
    | true =>
     rw [hb, if_pos rfl] at hp
     have HBT := jj hb
     cases hy : a.getLast? with
     | none => rw [hy] at hp; cases hp
     | some y =>
      rw [hy] at hp
      simp only at hp
      obtain ⟨b, s1, e1, e2⟩ := bind_some hp
      obtain ⟨T, s2, e3, e4⟩ := bind_some e2
      obtain ⟨hJ, hT, rfl⟩ := zam e3
      have HY := jj hy
      have HE4 := jj e4
      have HJ := jj hJ
      obtain ⟨q, hq⟩ : ∃ q, y.pos = q := ⟨_, rfl⟩
      have HQ := jj hq
      rw [hq] at hT HJ
      have HJN : Hid (∀ (W : World) (A A' : Option Addr) (c c' : Nat), Nodes W.heap.size W (.slice A a.length c) a -> Nodes W.heap.size W (.slice A' b.length c') b -> Calls Tryz.prog 98 #[.agg #[.int .i64 6, .int .i64 0, .int .i64 0, .int .i64 0, .int .i64 0, .string ⟨#[]⟩, .string ⟨#[]⟩, .slice none 0 0, .int .i64 q], .slice (some ⟨W.heap.size, 0, none⟩) 2 2] (W.alloc (.cells #[.slice A a.length c, .slice A' b.length c'] 25)) (NPost T (W.alloc (.cells #[.slice A a.length c, .slice A' b.length c'] 25)))) := jj fun W A A' c c' h h' => by rw [hT]; exact zb2 rfl HJ.out h h'
      have HXR : Hid (∀ W, Qs B pb rb W x -> Calls Tryz.prog 183 #[.pointer (some ⟨pb, 0, none⟩)] W (TP B pb rb W b s2)) := jj fun W hW => HAX.out W _ _ _ hW e1
      clear hp e1 e2 e3 e4 hJ hT hb hy hq
      go_wp2_with (first | (go_at_call 32; refine (za1 HS.out.st).mono ?_; rintro e w5 ⟨rfl, hb5⟩; rw [HT'.out]; have H5 := jj (HS.out.below hb5); clear hb5) | (go_at_call 184; refine (zk7 t' _).mono ?_; rintro e w6 ⟨rfl, hb6⟩; rw [HBT.out]; have H6 := jj (H5.out.below hb6); obtain ⟨g, o, c6, h6, t6, l6, z6, y6⟩ := H6.out.last HY.out; rw [HQ.out] at l6; have p6 := zaa h6 0; have i1 : (0 : Int) <= (a.length : Int) - 1 := (by omega); have i2 : (a.length : Int) - 1 < (a.length : Int) := (by omega); have i3 : ((a.length : Int) - 1).toNat = a.length - 1 := (by omega); have HC6 := jj h6; have HT6 := jj t6; clear hb6 h6 t6))
      have HD := jj (H6.out.below (br _ _).drew)
      go_region_with (first | (go_at_call 183; refine (HXR.out _ HD.out.st).mono ?_; rintro e w9 ⟨A9, c9, rfl, t9, q9, k9⟩; have H9 := jj (HD.out.next q9 k9); have u5 := zaa (zai k9 HD.out.st (HC6.out : w6.drew.heap[w4.heap.size]? = _) (by omega)) 0; have HT9 := jj t9; have HT0 := jj ((HT6.out.below (br _ _).drew).fr k9 (fun i hi => by have := ssB HD.out.st hi; omega)); clear t9 q9 k9) | (go_at_call 98; refine (HJN.out w9 _ _ _ _ HT0.out.nodes HT9.out.nodes).mono ?_; rintro e w7 ⟨A7, c7, ps7, rfl, p7, o7, b7⟩; have H7 := jj (H9.out.put b7 (baw w9 _) (NPost.tr p7 o7)); obtain ⟨A8, c8, h8, _⟩ := ((H9.out.below (baw w9 (.cells #[.slice (some ⟨g, o, none⟩) a.length c6, .slice A9 b.length c9] 25))).below b7).at_; have d7 := zaa h8 0; have d8 := zac h8 0; clear p7 o7 b7 h8))
      all_goals
       go_wp2
       go_roundg m
       case measure => omega
       case rel => exact ⟨T, _, H7, HE4⟩
    | false =>
     rw [hb, if_neg (by decide)] at hp
     cases hp
     have HBT := jj hb
     clear hb
     go_wp2_with (first | (go_at_call 32; refine (za1 HS.out.st).mono ?_; rintro e w5 ⟨rfl, hb5⟩; rw [HT'.out]; have H5 := jj (HS.out.below hb5); clear hb5) | (go_at_call 184; refine (zk7 t' _).mono ?_; rintro e w6 ⟨rfl, hb6⟩; rw [HBT.out]; have H6 := jj (H5.out.below hb6); obtain ⟨A6, c6, h6, t6⟩ := H6.out.at_; have p6 := zaa h6 0; have e6 := zaa H6.out.r2 0; have f6 := zac H6.out.r2 0; have HC6 := jj h6; clear hb6 h6 t6))
     exact bodyPost_ret (res163 _ _ w.heap.size A6 _ c6 rfl (by go_simp)) rfl ⟨A6, c6, rfl, H6.out.out HC6.out⟩
   ·have hz : (x.err == 0) = false := by simpa using he
    rw [decide_eq_false he, Bool.false_and, if_neg (by decide)] at hp
    cases hp
    go_wp2
    exact bodyPost_ret (res163 _ _ w.heap.size A _ c rfl (by go_simp)) rfl ⟨A, c, rfl, HS.out.out HR3.out⟩
theorem z1n {X : RS -> Ans} (HA : Rdz B pb rb 183 (postR X)) : Rdz B pb rb 163 (appR X) := by
 intro w s tf sf h ho
 by_cases he : s.err = 0
 ·by_cases hk : s.pk.k = 3
  ·exact zke HA h he hk ho
  ·exact zia HA h he hk ho
 ·exact zxl h he ho
end
open T Go.RowKit Go.Shelf
open A (Fr)
attribute [local go_sem] A.zat A.zau A.zas
section
variable {B pb rb : Nat} {w w' W : World} {s s' : RS}
theorem zea {k : Int} {x : List UInt8} (h : s.on k x = true) : s.go k x = s.nx := by unfold RS.go; rw [if_pos h]
theorem ze3 {k : Int} {x : List UInt8} (h : s.on k x = false) : s.go k x = s := by unfold RS.go; rw [if_neg (by rw [h]; decide)]
theorem res58 (tmps : Array Value) (W : World) (p : Nat) (A : Option Addr) (n c : Nat) (h2 : tmps[4]?.getD undef = .pointer (some ⟨p, 0, none⟩)) (hb : W.cell? ⟨p, 0, none⟩ = some (.slice A n c)) :
  Sem.run Tryz.prog (results Tryz.f58 tmps) W = .ok (.agg #[.slice A n c]) W := by
 simp [results, Tryz.results58, go_sem, h2, hb]
theorem zn5 {X : RS -> Ans} (HX : Rdz B pb rb 30 X) {p : Int} {tf : List Nd} {sf : RS} (h : Qs B pb rb w s) (m0 : s.on 1 zb5 = true) (ho : funR X p s.nx = some (tf, sf)) : Calls Tryz.prog 58 #[.pointer (some ⟨pb, 0, none⟩), .int .i64 p] w (TP B pb rb w tf sf) := by
 unfold funR at ho
 obtain ⟨a, s1, e1, e2⟩ := bind_some ho
 obtain ⟨hJ, hT, rfl⟩ := zam e2
 have HC := jj (Cel.made h)
 have HG := jj (zea m0)
 have HM := jj m0
 obtain ⟨nm, hnm⟩ : ∃ nm, (s.nx.off 2).1 = nm := ⟨_, rfl⟩
 rw [hnm] at hT hJ
 have HNM := jj hnm
 have HJN : Hid (∀ (W : World) (A : Option Addr) (c : Nat), Nodes W.heap.size W (.slice A a.length c) a -> Calls Tryz.prog 98 #[.agg #[.int .i64 5, .int .i64 0, .int .i64 0, .int .i64 0, .int .i64 0, .string nm, .string ⟨#[]⟩, .slice none 0 0, .int .i64 p], .slice (some ⟨W.heap.size, 0, none⟩) 1 1] (W.alloc (.cells #[.slice A a.length c] 25)) (NPost tf (W.alloc (.cells #[.slice A a.length c] 25)))) := jj fun W A c h => by rw [hT]; exact zh3 rfl hJ h
 have HXX : Hid (∀ W, Qs B pb rb W ((s.nx.off 2).2.must 7 zbc) -> Calls Tryz.prog 30 #[.pointer (some ⟨pb, 0, none⟩)] W (TP B pb rb W a sf)) := jj fun W hW => HX W _ _ _ hW e1
 clear h m0 ho e1 e2 hJ hT HX hnm
 go_enter Tryz.func58, Tryz.ntmps58
 go_wp2_with (first | (go_at_call 95; refine (za2 (l := zb5) HC.out.st (zab #[102, 117, 110])).mono ?_; rintro e w3 ⟨rfl, q4, k4⟩; rw [HG.out] at q4; rw [HM.out]; have H3 := jj (HC.out.next q4 k4); clear q4 k4) | (go_at_call 96; refine (zfs H3.out.st 2).mono ?_; rintro e w4 ⟨rfl, q4, k4⟩; rw [HNM.out]; have H4 := jj (H3.out.next q4 k4); clear q4 k4) | (go_at_call 97; refine (zcb (l := zbc) H4.out.st (by decide) (by decide) (zab #[45, 62])).mono ?_; rintro e w5 ⟨rfl, q4, k4⟩; have H5 := jj (H4.out.next q4 k4); clear q4 k4) | (go_at_call 30; refine (HXX.out _ H5.out.st).mono ?_; rintro e w6 ⟨A6, c6, rfl, t6, q4, k4⟩; have H6 := jj (H5.out.next q4 k4); have T6 := jj t6; clear q4 k4 t6) | (go_at_call 98; refine (HJN.out w6 _ _ T6.out.nodes).mono ?_; rintro e w7 ⟨A7, c7, ps7, rfl, p7, o7, b7⟩; have H7 := jj ((H6.out.below (baw w6 (.cells #[.slice A6 a.length c6] 25))).below b7); have r7 := zaa H7.out.r2 0; have f7 := zac H7.out.r2 0; have T7 := jj ((NPost.tr p7 o7).low (B := w.heap.size + 1) (by have := H6.out.lt; simp; omega)); clear p7 o7 b7))
 exact bodyPost_ret (res58 _ _ w.heap.size A7 _ c7 rfl (by go_simp)) rfl ⟨A7, c7, rfl, H7.out.out T7.out⟩
end
open T Go.RowKit Go.Shelf
open A (Fr)
attribute [local go_sem] A.zat A.zau A.zas
section
variable {B pb rb : Nat} {w w' W : World} {s s' : RS}
structure Lc (w W : World) (k : Nat) (A : Option Addr) (c : Nat) (t : List Nd) : Prop where
 at_ : W.heap[k]? = some (.cells #[.slice A t.length c] 25 (0, 0))
 tr : Tr (w.heap.size + 1) W (.slice A t.length c) t
 hk : w.heap.size < k
theorem Lc.next {k c : Nat} {A : Option Addr} {t : List Nd} (h : Lc w W k A c t) (hq : Cel B pb rb w W s) (hf : Fr (SS pb rb) W w') : Lc w w' k A c t :=
 ⟨zai hf hq.st h.at_ (by have := h.hk; have := hq.B1; omega), h.tr.fr hf (fun i hi => by have := ssB hq.st hi; have := hq.B1; omega), h.hk⟩
theorem Lc.below {k c : Nat} {A : Option Addr} {t : List Nd} (h : Lc w W k A c t) (hb : Below W.heap.size W w') : Lc w w' k A c t :=
 ⟨(hb.block _ (age.1 h.at_).1).trans h.at_, h.tr.below hb, h.hk⟩
theorem Lc.made {V w4 : World} {A : Option Addr} {c : Nat} {t : List Nd} (h : Cel B pb rb w V s) (t1 : Tr V.heap.size w4 (.slice A t.length c) t) (k1 : Fr (SS pb rb) V w4) : Lc w (w4.alloc (.cells #[.slice A t.length c] 25)) w4.heap.size A c t :=
 ⟨anw _ _, (t1.below (baw _ _)).low h.lt, lltl h.lt k1.size⟩
theorem zrx {X : RS -> Ans} (HX : Rdz B pb rb 30 X) {p : Int} {tf : List Nd} {sf : RS} (h : Qs B pb rb w s) (m0 : s.on 1 zb5 = false) (m1 : s.on 1 zcf = false) (m2 : s.on 1 w_if = true) (ho : ifR X p s.nx = some (tf, sf)) : Calls Tryz.prog 58 #[.pointer (some ⟨pb, 0, none⟩), .int .i64 p] w (TP B pb rb w tf sf) := by
 unfold ifR at ho
 obtain ⟨a, s1, e1, e2⟩ := bind_some ho
 obtain ⟨b, s2, e3, e4⟩ := bind_some e2
 obtain ⟨d, s3, e5, e6⟩ := bind_some e4
 obtain ⟨hJ, hT, rfl⟩ := zam e6
 have HC := jj (Cel.made h)
 have HG0 := jj (ze3 m0)
 have HG1 := jj (ze3 m1)
 have HG2 := jj (zea m2)
 have HM0 := jj m0
 have HM1 := jj m1
 have HM2 := jj m2
 have HJN : Hid (∀ (W : World) (k : Nat) (A1 A2 A3 : Option Addr) (c1 c2 c3 : Nat), k = W.heap.size -> Nodes W.heap.size W (.slice A1 a.length c1) a -> Nodes W.heap.size W (.slice A2 b.length c2) b -> Nodes W.heap.size W (.slice A3 d.length c3) d -> Calls Tryz.prog 98 #[.agg #[.int .i64 9, .int .i64 0, .int .i64 0, .int .i64 0, .int .i64 0, .string ⟨#[]⟩, .string ⟨#[]⟩, .slice none 0 0, .int .i64 p], .slice (some ⟨k, 0, none⟩) 3 3] (W.alloc (.cells #[.slice A1 a.length c1, .slice A2 b.length c2, .slice A3 d.length c3] 25)) (NPost tf (W.alloc (.cells #[.slice A1 a.length c1, .slice A2 b.length c2, .slice A3 d.length c3] 25)))) := jj fun W k A1 A2 A3 c1 c2 c3 hk h1 h2 h3 => by rw [hT, hk]; exact zs6 rfl hJ h1 h2 h3
 have X1 : Hid (∀ W, Qs B pb rb W s.nx -> Calls Tryz.prog 30 #[.pointer (some ⟨pb, 0, none⟩)] W (TP B pb rb W a s1)) := jj fun W hW => HX W _ _ _ hW e1
 have X2 : Hid (∀ W, Qs B pb rb W (s1.must 1 zdt) -> Calls Tryz.prog 30 #[.pointer (some ⟨pb, 0, none⟩)] W (TP B pb rb W b s2)) := jj fun W hW => HX W _ _ _ hW e3
 have X3 : Hid (∀ W, Qs B pb rb W (s2.must 1 zc0) -> Calls Tryz.prog 30 #[.pointer (some ⟨pb, 0, none⟩)] W (TP B pb rb W d sf)) := jj fun W hW => HX W _ _ _ hW e5
 clear h m0 m1 m2 ho e1 e2 e3 e4 e5 e6 hJ hT HX
 go_enter Tryz.func58, Tryz.ntmps58
 go_wp2_with (first | (go_at_call 95; refine (za2 (l := w_if) H4.out.st (zab #[105, 102])).mono ?_; rintro e w5 ⟨rfl, q4, k4⟩; rw [HG2.out] at q4; rw [HM2.out]; have H5 := jj (H4.out.next q4 k4); clear q4 k4) | (go_at_call 95; refine (za2 (l := zcf) H3.out.st (zab #[108, 101, 116])).mono ?_; rintro e w4 ⟨rfl, q4, k4⟩; rw [HG1.out] at q4; rw [HM1.out]; have H4 := jj (H3.out.next q4 k4); clear q4 k4) | (go_at_call 95; refine (za2 (l := zb5) HC.out.st (zab #[102, 117, 110])).mono ?_; rintro e w3 ⟨rfl, q4, k4⟩; rw [HG0.out] at q4; rw [HM0.out]; have H3 := jj (HC.out.next q4 k4); clear q4 k4) | (go_at_call 30; refine (X3.out _ H9.out.st).mono ?_; rintro e w10 ⟨A10, c10, rfl, t6, q4, k4⟩; have b0 : Below w10.heap.size w10 (w10.alloc (.cells #[.slice A10 d.length c10] 25)) := baw _ _; have H10 := jj ((H9.out.next q4 k4).below b0); have L10 := jj (Lc.made H9.out t6 k4); have M10 := jj ((M9.out.next H9.out k4).below b0); have N10 := jj ((N9.out.next H9.out k4).below b0); have z1 := zaa L10.out.at_ 0; have z2 := zaa M10.out.at_ 0; have z3 := zaa N10.out.at_ 0; clear q4 k4 t6 b0) | (go_at_call 97; refine (zcb (l := zc0) H8.out.st (by decide) (by decide) (zab #[101, 108, 115, 101])).mono ?_; rintro e w9 ⟨rfl, q4, k4⟩; have H9 := jj (H8.out.next q4 k4); have M9 := jj (M8.out.next H8.out k4); have N9 := jj (N8.out.next H8.out k4); clear q4 k4) | (go_at_call 30; refine (X2.out _ H7.out.st).mono ?_; rintro e w8 ⟨A8, c8, rfl, t6, q4, k4⟩; have b0 : Below w8.heap.size w8 (w8.alloc (.cells #[.slice A8 b.length c8] 25)) := baw _ _; have H8 := jj ((H7.out.next q4 k4).below b0); have N8 := jj (Lc.made H7.out t6 k4); have M8 := jj ((M7.out.next H7.out k4).below b0); clear q4 k4 t6 b0) | (go_at_call 97; refine (zcb (l := zdt) H6.out.st (by decide) (by decide) (zab #[116, 104, 101, 110])).mono ?_; rintro e w7 ⟨rfl, q4, k4⟩; have H7 := jj (H6.out.next q4 k4); have M7 := jj (M6.out.next H6.out k4); clear q4 k4) | (go_at_call 30; refine (X1.out _ H5.out.st).mono ?_; rintro e w6 ⟨A6, c6, rfl, t6, q4, k4⟩; have b0 : Below w6.heap.size w6 (w6.alloc (.cells #[.slice A6 a.length c6] 25)) := baw _ _; have H6 := jj ((H5.out.next q4 k4).below b0); have M6 := jj (Lc.made H5.out t6 k4); clear q4 k4 t6 b0) | (go_at_call 98; refine (HJN.out _ _ _ _ _ _ _ _ (by simp) M10.out.tr.nodes N10.out.tr.nodes L10.out.tr.nodes).mono ?_; rintro e w11 ⟨A7, c7, ps7, rfl, p7, o7, b7⟩; have H11 := jj ((H10.out.below (baw _ _)).below b7); have r7 := zaa H11.out.r2 0; have f7 := zac H11.out.r2 0; have T7 := jj ((NPost.tr p7 o7).low (B := w.heap.size + 1) (by have := H10.out.lt; simp at this ⊢; omega)); clear p7 o7 b7))
 exact bodyPost_ret (res58 _ _ w.heap.size A7 _ c7 rfl (by go_simp)) rfl ⟨A7, c7, rfl, H11.out.out T7.out⟩
end
open T Go.RowKit Go.Shelf
open A (Fr)
attribute [local go_sem] A.zat A.zau A.zas
section
variable {B pb rb : Nat} {w w' W : World} {s s' : RS}
theorem res99 (tmps : Array Value) (W : World) (p : Nat) (A : Option Addr) (n c : Nat) (h2 : tmps[2]?.getD undef = .pointer (some ⟨p, 0, none⟩)) (hb : W.cell? ⟨p, 0, none⟩ = some (.slice A n c)) :
  Sem.run Tryz.prog (results Tryz.f99 tmps) W = .ok (.agg #[.slice A n c]) W := by
 simp [results, Tryz.results99, go_sem, h2, hb]
theorem z1m {X : RS -> Ans} (HA : Rdz B pb rb 137 X) : Rdz B pb rb 99 (fun s => (X s).bind fun r => loopR sumOps X (r.2.l.length + 1) r.1 r.2) := by
 intro w s tf sf h ho
 obtain ⟨a0, s0, h1, h2⟩ := bind_some ho
 have HA0 := jj (HA (w.alloc (.cells #[.slice none 0 0] 25)) s _ _ (h.alloc _) h1)
 have HAX := jj HA
 have HL := jj h2
 have H := jj h
 clear h ho h1 h2 HA
 go_enter Tryz.func99, Tryz.ntmps99
 go_wp2_with (go_at_call 137; refine HA0.out.mono ?_; rintro e w1 ⟨A1, c1, rfl, t1, q1, k1⟩; have H1 := jj (held0 H.out t1 q1 k1); clear t1 q1 k1)
 go_loopg [] (s0.l.length + 1) (fun n wr => ∃ (a : List Nd) (x : RS), Hid (Held B pb rb w wr w1.heap.size a x) /\ Hid (loopR sumOps X n a x = some (tf, sf)))
 case atStart => exact ⟨a0, s0, H1, HL⟩
 case round =>
  obtain ⟨a, x, HS, HPP⟩ := hrel
  cases gk with
  | zero => have := HPP.out; simp [loopR] at this
  | succ m =>
   have hp := HPP.out
   rw [loopR] at hp
   obtain ⟨c0, c1, c2, c3, cf⟩ := HS.out.st.pcells
   have hk3 := HS.out.k3
   have hB1 := HS.out.B1
   obtain ⟨A, c, hr3, _⟩ := HS.out.at_
   have HR3 := jj hr3
   have r3 := zaa hr3 0
   have r2 := zaa HS.out.r2 0
   have f2 := zac HS.out.r2 0
   clear hr3 cf
   by_cases he : x.err = 0
   ·have hz : (x.err == 0) = true := by simpa using he
    rw [if_pos he] at hp
    obtain ⟨t, ht⟩ : ∃ t, x.pk = t := ⟨_, rfl⟩
    have HT := jj ht
    rw [ht] at hp
    clear ht
    by_cases hx0 : x.is 7 [43] = true
    ·have hfd : (sumOps.find? fun o => x.is 7 o.1) = some ([43], 1) := by unfold sumOps; simp [hx0]
     rw [hfd] at hp
     obtain ⟨b, s1, e1, e2⟩ := bind_some hp
     obtain ⟨T, s2, e3, e4⟩ := bind_some e2
     obtain ⟨hJ, hT, rfl⟩ := zam e3
     have HGO0 : Hid (x.go 7 [43] = x.nx /\ x.on 7 [43] = true) := jj (by unfold RS.go RS.on; simp [he, hx0])
     have HE4 := jj e4
     have HJ := jj hJ
     have HJN : Hid (∀ (W : World) (A A' : Option Addr) (c c' : Nat), Nodes W.heap.size W (.slice A a.length c) a -> Nodes W.heap.size W (.slice A' b.length c') b -> Calls Tryz.prog 98 #[.agg #[.int .i64 10, .int .i64 0, .int .i64 0, .int .i64 0, .int .i64 1, .string ⟨#[]⟩, .string ⟨#[]⟩, .slice none 0 0, .int .i64 t.p], .slice (some ⟨W.heap.size, 0, none⟩) 2 2] (W.alloc (.cells #[.slice A a.length c, .slice A' b.length c'] 25)) (NPost T (W.alloc (.cells #[.slice A a.length c, .slice A' b.length c'] 25)))) := jj fun W A A' c c' h h' => by rw [hT]; exact zb2 rfl HJ.out h h'
     have HXX : Hid (∀ W, Qs B pb rb W x.nx -> Calls Tryz.prog 137 #[.pointer (some ⟨pb, 0, none⟩)] W (TP B pb rb W b s2)) := jj fun W hW => HAX.out W _ _ _ hW e1
     clear hp hfd e1 e2 e3 e4 hJ hT hx0
     go_wp2_with (first | (go_at_call 32; refine (za1 HS.out.st).mono ?_; rintro e w3 ⟨rfl, hb3⟩; rw [HT.out]; have H3 := jj ((HS.out.below hb3).below (baw w3 (.cells #[.int .i64 t.k, .string t.s, .int .i64 t.n, .int .i64 t.p] 63))); have G3 := jj (anw w3 (.cells #[.int .i64 t.k, .string t.s, .int .i64 t.n, .int .i64 t.p] 63)); have hz3 := ltr HS.out.fr.size hb3.size; clear hb3) | (go_at_call 100; refine (za8 (l := [43]) H3.out.st (zab #[43])).mono ?_; rintro e w4 ⟨rfl, q4, k4⟩; rw [HGO0.out.1] at q4; rw [HGO0.out.2]; have H4 := jj (H3.out.next q4 k4); have G4 := jj (zai k4 H3.out.st G3.out (by omega)); have p3 := zaa G4.out 3; obtain ⟨A5, c5, h5, t5⟩ := H4.out.at_; have p5 := zaa h5 0; have HC5 := jj h5; have HT5 := jj t5; have e2 := zaa H4.out.r2 0; have f3 := zac H4.out.r2 0; clear q4 k4 h5 t5))
     have HD := jj (H4.out.below (br _ _).drew)
     go_region_with (first | (go_at_call 137; refine (HXX.out _ HD.out.st).mono ?_; rintro e w9 ⟨A9, c9, rfl, t9, q9, k9⟩; have H9 := jj (HD.out.next q9 k9); have g9 := zai k9 HD.out.st (G4.out : w4.drew.heap[w3.heap.size]? = _) (by omega); have u3 := zaa g9 3; have v3 := zaa ((Below.heap_alloc w9 (.cells #[.slice A5 a.length c5, .slice A9 b.length c9] 25) _ (age.1 g9).1).trans g9) 3; have u5 := zaa (zai k9 HD.out.st (HC5.out : w4.drew.heap[w1.heap.size]? = _) (by omega)) 0; have HT9 := jj t9; have HT0 := jj ((HT5.out.below (br _ _).drew).fr k9 (fun i hi => by have := ssB HD.out.st hi; omega)); clear t9 q9 k9 g9) | (go_at_call 98; refine (HJN.out w9 _ _ _ _ HT0.out.nodes HT9.out.nodes).mono ?_; rintro e w7 ⟨A7, c7, ps7, rfl, p7, o7, b7⟩; have H7 := jj (H9.out.put b7 (baw w9 _) (NPost.tr p7 o7)); obtain ⟨A8, c8, h8, _⟩ := ((H9.out.below (baw w9 (.cells #[.slice A5 a.length c5, .slice A9 b.length c9] 25))).below b7).at_; have d7 := zaa h8 0; have d8 := zac h8 0; clear p7 o7 b7 h8))
     all_goals
      go_wp2
      go_roundg m
      case measure => omega
      case rel => exact ⟨T, _, H7, HE4⟩
    by_cases hx1 : x.is 7 [45] = true
    ·have hfd : (sumOps.find? fun o => x.is 7 o.1) = some ([45], 2) := by unfold sumOps; simp [hx0, hx1]
     rw [hfd] at hp
     obtain ⟨b, s1, e1, e2⟩ := bind_some hp
     obtain ⟨T, s2, e3, e4⟩ := bind_some e2
     obtain ⟨hJ, hT, rfl⟩ := zam e3
     have HGO0 : Hid (x.go 7 [43] = x /\ x.on 7 [43] = false) := jj (by unfold RS.go RS.on; simp [he, hx0])
     have HGO1 : Hid (x.go 7 [45] = x.nx /\ x.on 7 [45] = true) := jj (by unfold RS.go RS.on; simp [he, hx1])
     have HE4 := jj e4
     have HJ := jj hJ
     have HJN : Hid (∀ (W : World) (A A' : Option Addr) (c c' : Nat), Nodes W.heap.size W (.slice A a.length c) a -> Nodes W.heap.size W (.slice A' b.length c') b -> Calls Tryz.prog 98 #[.agg #[.int .i64 10, .int .i64 0, .int .i64 0, .int .i64 0, .int .i64 2, .string ⟨#[]⟩, .string ⟨#[]⟩, .slice none 0 0, .int .i64 t.p], .slice (some ⟨W.heap.size, 0, none⟩) 2 2] (W.alloc (.cells #[.slice A a.length c, .slice A' b.length c'] 25)) (NPost T (W.alloc (.cells #[.slice A a.length c, .slice A' b.length c'] 25)))) := jj fun W A A' c c' h h' => by rw [hT]; exact zb2 rfl HJ.out h h'
     have HXX : Hid (∀ W, Qs B pb rb W x.nx -> Calls Tryz.prog 137 #[.pointer (some ⟨pb, 0, none⟩)] W (TP B pb rb W b s2)) := jj fun W hW => HAX.out W _ _ _ hW e1
     clear hp hfd e1 e2 e3 e4 hJ hT hx0 hx1
     go_wp2_with (first | (go_at_call 32; refine (za1 HS.out.st).mono ?_; rintro e w3 ⟨rfl, hb3⟩; rw [HT.out]; have H3 := jj ((HS.out.below hb3).below (baw w3 (.cells #[.int .i64 t.k, .string t.s, .int .i64 t.n, .int .i64 t.p] 63))); have G3 := jj (anw w3 (.cells #[.int .i64 t.k, .string t.s, .int .i64 t.n, .int .i64 t.p] 63)); have hz3 := ltr HS.out.fr.size hb3.size; clear hb3) | (go_at_call 100; refine (za8 (l := [45]) H4.out.st (zab #[45])).mono ?_; rintro e w5 ⟨rfl, q4, k4⟩; rw [HGO1.out.1] at q4; rw [HGO1.out.2]; have H5 := jj (H4.out.next q4 k4); have G5 := jj (zai k4 H4.out.st G4.out (by omega)); have p3 := zaa G5.out 3; obtain ⟨A5, c5, h5, t5⟩ := H5.out.at_; have p5 := zaa h5 0; have HC5 := jj h5; have HT5 := jj t5; have e2 := zaa H5.out.r2 0; have f3 := zac H5.out.r2 0; clear q4 k4 h5 t5) | (go_at_call 100; refine (za8 (l := [43]) H3.out.st (zab #[43])).mono ?_; rintro e w4 ⟨rfl, q4, k4⟩; rw [HGO0.out.1] at q4; rw [HGO0.out.2]; have H4 := jj (H3.out.next q4 k4); have G4 := jj (zai k4 H3.out.st G3.out (by omega)); have p3 := zaa G4.out 3; obtain ⟨A5, c5, h5, t5⟩ := H4.out.at_; have p5 := zaa h5 0; have HC5 := jj h5; have HT5 := jj t5; have e2 := zaa H4.out.r2 0; have f3 := zac H4.out.r2 0; clear q4 k4 h5 t5))
     have HD := jj (H5.out.below (br _ _).drew)
     go_region_with (first | (go_at_call 137; refine (HXX.out _ HD.out.st).mono ?_; rintro e w9 ⟨A9, c9, rfl, t9, q9, k9⟩; have H9 := jj (HD.out.next q9 k9); have g9 := zai k9 HD.out.st (G5.out : w5.drew.heap[w3.heap.size]? = _) (by omega); have u3 := zaa g9 3; have v3 := zaa ((Below.heap_alloc w9 (.cells #[.slice A5 a.length c5, .slice A9 b.length c9] 25) _ (age.1 g9).1).trans g9) 3; have u5 := zaa (zai k9 HD.out.st (HC5.out : w5.drew.heap[w1.heap.size]? = _) (by omega)) 0; have HT9 := jj t9; have HT0 := jj ((HT5.out.below (br _ _).drew).fr k9 (fun i hi => by have := ssB HD.out.st hi; omega)); clear t9 q9 k9 g9) | (go_at_call 98; refine (HJN.out w9 _ _ _ _ HT0.out.nodes HT9.out.nodes).mono ?_; rintro e w7 ⟨A7, c7, ps7, rfl, p7, o7, b7⟩; have H7 := jj (H9.out.put b7 (baw w9 _) (NPost.tr p7 o7)); obtain ⟨A8, c8, h8, _⟩ := ((H9.out.below (baw w9 (.cells #[.slice A5 a.length c5, .slice A9 b.length c9] 25))).below b7).at_; have d7 := zaa h8 0; have d8 := zac h8 0; clear p7 o7 b7 h8))
     all_goals
      go_wp2
      go_roundg m
      case measure => omega
      case rel => exact ⟨T, _, H7, HE4⟩
    by_cases hx2 : x.is 7 [94] = true
    ·have hfd : (sumOps.find? fun o => x.is 7 o.1) = some ([94], 7) := by unfold sumOps; simp [hx0, hx1, hx2]
     rw [hfd] at hp
     obtain ⟨b, s1, e1, e2⟩ := bind_some hp
     obtain ⟨T, s2, e3, e4⟩ := bind_some e2
     obtain ⟨hJ, hT, rfl⟩ := zam e3
     have HGO0 : Hid (x.go 7 [43] = x /\ x.on 7 [43] = false) := jj (by unfold RS.go RS.on; simp [he, hx0])
     have HGO1 : Hid (x.go 7 [45] = x /\ x.on 7 [45] = false) := jj (by unfold RS.go RS.on; simp [he, hx1])
     have HGO2 : Hid (x.go 7 [94] = x.nx /\ x.on 7 [94] = true) := jj (by unfold RS.go RS.on; simp [he, hx2])
     have HE4 := jj e4
     have HJ := jj hJ
     have HJN : Hid (∀ (W : World) (A A' : Option Addr) (c c' : Nat), Nodes W.heap.size W (.slice A a.length c) a -> Nodes W.heap.size W (.slice A' b.length c') b -> Calls Tryz.prog 98 #[.agg #[.int .i64 10, .int .i64 0, .int .i64 0, .int .i64 0, .int .i64 7, .string ⟨#[]⟩, .string ⟨#[]⟩, .slice none 0 0, .int .i64 t.p], .slice (some ⟨W.heap.size, 0, none⟩) 2 2] (W.alloc (.cells #[.slice A a.length c, .slice A' b.length c'] 25)) (NPost T (W.alloc (.cells #[.slice A a.length c, .slice A' b.length c'] 25)))) := jj fun W A A' c c' h h' => by rw [hT]; exact zb2 rfl HJ.out h h'
     have HXX : Hid (∀ W, Qs B pb rb W x.nx -> Calls Tryz.prog 137 #[.pointer (some ⟨pb, 0, none⟩)] W (TP B pb rb W b s2)) := jj fun W hW => HAX.out W _ _ _ hW e1
     clear hp hfd e1 e2 e3 e4 hJ hT hx0 hx1 hx2
     go_wp2_with (first | (go_at_call 32; refine (za1 HS.out.st).mono ?_; rintro e w3 ⟨rfl, hb3⟩; rw [HT.out]; have H3 := jj ((HS.out.below hb3).below (baw w3 (.cells #[.int .i64 t.k, .string t.s, .int .i64 t.n, .int .i64 t.p] 63))); have G3 := jj (anw w3 (.cells #[.int .i64 t.k, .string t.s, .int .i64 t.n, .int .i64 t.p] 63)); have hz3 := ltr HS.out.fr.size hb3.size; clear hb3) | (go_at_call 100; refine (za8 (l := [94]) H5.out.st (zab #[94])).mono ?_; rintro e w6 ⟨rfl, q4, k4⟩; rw [HGO2.out.1] at q4; rw [HGO2.out.2]; have H6 := jj (H5.out.next q4 k4); have G6 := jj (zai k4 H5.out.st G5.out (by omega)); have p3 := zaa G6.out 3; obtain ⟨A5, c5, h5, t5⟩ := H6.out.at_; have p5 := zaa h5 0; have HC5 := jj h5; have HT5 := jj t5; have e2 := zaa H6.out.r2 0; have f3 := zac H6.out.r2 0; clear q4 k4 h5 t5) | (go_at_call 100; refine (za8 (l := [45]) H4.out.st (zab #[45])).mono ?_; rintro e w5 ⟨rfl, q4, k4⟩; rw [HGO1.out.1] at q4; rw [HGO1.out.2]; have H5 := jj (H4.out.next q4 k4); have G5 := jj (zai k4 H4.out.st G4.out (by omega)); have p3 := zaa G5.out 3; obtain ⟨A5, c5, h5, t5⟩ := H5.out.at_; have p5 := zaa h5 0; have HC5 := jj h5; have HT5 := jj t5; have e2 := zaa H5.out.r2 0; have f3 := zac H5.out.r2 0; clear q4 k4 h5 t5) | (go_at_call 100; refine (za8 (l := [43]) H3.out.st (zab #[43])).mono ?_; rintro e w4 ⟨rfl, q4, k4⟩; rw [HGO0.out.1] at q4; rw [HGO0.out.2]; have H4 := jj (H3.out.next q4 k4); have G4 := jj (zai k4 H3.out.st G3.out (by omega)); have p3 := zaa G4.out 3; obtain ⟨A5, c5, h5, t5⟩ := H4.out.at_; have p5 := zaa h5 0; have HC5 := jj h5; have HT5 := jj t5; have e2 := zaa H4.out.r2 0; have f3 := zac H4.out.r2 0; clear q4 k4 h5 t5))
     have HD := jj (H6.out.below (br _ _).drew)
     go_region_with (first | (go_at_call 137; refine (HXX.out _ HD.out.st).mono ?_; rintro e w9 ⟨A9, c9, rfl, t9, q9, k9⟩; have H9 := jj (HD.out.next q9 k9); have g9 := zai k9 HD.out.st (G6.out : w6.drew.heap[w3.heap.size]? = _) (by omega); have u3 := zaa g9 3; have v3 := zaa ((Below.heap_alloc w9 (.cells #[.slice A5 a.length c5, .slice A9 b.length c9] 25) _ (age.1 g9).1).trans g9) 3; have u5 := zaa (zai k9 HD.out.st (HC5.out : w6.drew.heap[w1.heap.size]? = _) (by omega)) 0; have HT9 := jj t9; have HT0 := jj ((HT5.out.below (br _ _).drew).fr k9 (fun i hi => by have := ssB HD.out.st hi; omega)); clear t9 q9 k9 g9) | (go_at_call 98; refine (HJN.out w9 _ _ _ _ HT0.out.nodes HT9.out.nodes).mono ?_; rintro e w7 ⟨A7, c7, ps7, rfl, p7, o7, b7⟩; have H7 := jj (H9.out.put b7 (baw w9 _) (NPost.tr p7 o7)); obtain ⟨A8, c8, h8, _⟩ := ((H9.out.below (baw w9 (.cells #[.slice A5 a.length c5, .slice A9 b.length c9] 25))).below b7).at_; have d7 := zaa h8 0; have d8 := zac h8 0; clear p7 o7 b7 h8))
     all_goals
      go_wp2
      go_roundg m
      case measure => omega
      case rel => exact ⟨T, _, H7, HE4⟩
    have hfd : (sumOps.find? fun o => x.is 7 o.1) = none := by unfold sumOps; simp [hx0, hx1, hx2]
    rw [hfd] at hp
    cases hp
    have HGO0 : Hid (sf.go 7 [43] = sf /\ sf.on 7 [43] = false) := jj (by unfold RS.go RS.on; simp [he, hx0])
    have HGO1 : Hid (sf.go 7 [45] = sf /\ sf.on 7 [45] = false) := jj (by unfold RS.go RS.on; simp [he, hx1])
    have HGO2 : Hid (sf.go 7 [94] = sf /\ sf.on 7 [94] = false) := jj (by unfold RS.go RS.on; simp [he, hx2])
    clear hfd hx0 hx1 hx2
    go_wp2_with (first | (go_at_call 32; refine (za1 HS.out.st).mono ?_; rintro e w3 ⟨rfl, hb3⟩; rw [HT.out]; have H3 := jj ((HS.out.below hb3).below (baw w3 (.cells #[.int .i64 t.k, .string t.s, .int .i64 t.n, .int .i64 t.p] 63))); have G3 := jj (anw w3 (.cells #[.int .i64 t.k, .string t.s, .int .i64 t.n, .int .i64 t.p] 63)); have hz3 := ltr HS.out.fr.size hb3.size; clear hb3) | (go_at_call 100; refine (za8 (l := [94]) H5.out.st (zab #[94])).mono ?_; rintro e w6 ⟨rfl, q4, k4⟩; rw [HGO2.out.1] at q4; rw [HGO2.out.2]; have H6 := jj (H5.out.next q4 k4); have G6 := jj (zai k4 H5.out.st G5.out (by omega)); have p3 := zaa G6.out 3; obtain ⟨A5, c5, h5, t5⟩ := H6.out.at_; have p5 := zaa h5 0; have HC5 := jj h5; have HT5 := jj t5; have e2 := zaa H6.out.r2 0; have f3 := zac H6.out.r2 0; clear q4 k4 h5 t5) | (go_at_call 100; refine (za8 (l := [45]) H4.out.st (zab #[45])).mono ?_; rintro e w5 ⟨rfl, q4, k4⟩; rw [HGO1.out.1] at q4; rw [HGO1.out.2]; have H5 := jj (H4.out.next q4 k4); have G5 := jj (zai k4 H4.out.st G4.out (by omega)); have p3 := zaa G5.out 3; obtain ⟨A5, c5, h5, t5⟩ := H5.out.at_; have p5 := zaa h5 0; have HC5 := jj h5; have HT5 := jj t5; have e2 := zaa H5.out.r2 0; have f3 := zac H5.out.r2 0; clear q4 k4 h5 t5) | (go_at_call 100; refine (za8 (l := [43]) H3.out.st (zab #[43])).mono ?_; rintro e w4 ⟨rfl, q4, k4⟩; rw [HGO0.out.1] at q4; rw [HGO0.out.2]; have H4 := jj (H3.out.next q4 k4); have G4 := jj (zai k4 H3.out.st G3.out (by omega)); have p3 := zaa G4.out 3; obtain ⟨A5, c5, h5, t5⟩ := H4.out.at_; have p5 := zaa h5 0; have HC5 := jj h5; have HT5 := jj t5; have e2 := zaa H4.out.r2 0; have f3 := zac H4.out.r2 0; clear q4 k4 h5 t5))
    exact bodyPost_ret (res99 _ _ w.heap.size A5 _ c5 rfl (by go_simp)) rfl ⟨A5, c5, rfl, H6.out.out HC5.out⟩
   ·have hz : (x.err == 0) = false := by simpa using he
    rw [if_neg he] at hp
    cases hp
    go_wp2
    exact bodyPost_ret (res99 _ _ w.heap.size A _ c rfl (by go_simp)) rfl ⟨A, c, rfl, HS.out.out HR3.out⟩
end
open T Go.RowKit Go.Shelf
open A (Fr)
attribute [local go_sem] A.zat A.zau A.zas
section
variable {B pb rb : Nat} {w w' W : World} {s s' : RS}
theorem res137 (tmps : Array Value) (W : World) (p : Nat) (A : Option Addr) (n c : Nat) (h2 : tmps[2]?.getD undef = .pointer (some ⟨p, 0, none⟩)) (hb : W.cell? ⟨p, 0, none⟩ = some (.slice A n c)) :
  Sem.run Tryz.prog (results Tryz.f137 tmps) W = .ok (.agg #[.slice A n c]) W := by
 simp [results, Tryz.results137, go_sem, h2, hb]
theorem zzm {X : RS -> Ans} (HA : Rdz B pb rb 163 X) : Rdz B pb rb 137 (fun s => (X s).bind fun r => loopR prodOps X (r.2.l.length + 1) r.1 r.2) := by
 intro w s tf sf h ho
 obtain ⟨a0, s0, h1, h2⟩ := bind_some ho
 have HA0 := jj (HA (w.alloc (.cells #[.slice none 0 0] 25)) s _ _ (h.alloc _) h1)
 have HAX := jj HA
 have HL := jj h2
 have H := jj h
 clear h ho h1 h2 HA
 go_enter Tryz.func137, Tryz.ntmps137
 go_wp2_with (go_at_call 163; refine HA0.out.mono ?_; rintro e w1 ⟨A1, c1, rfl, t1, q1, k1⟩; have H1 := jj (held0 H.out t1 q1 k1); clear t1 q1 k1)
 go_loopg [] (s0.l.length + 1) (fun n wr => ∃ (a : List Nd) (x : RS), Hid (Held B pb rb w wr w1.heap.size a x) /\ Hid (loopR prodOps X n a x = some (tf, sf)))
 case atStart => exact ⟨a0, s0, H1, HL⟩
 case round =>
  obtain ⟨a, x, HS, HPP⟩ := hrel
  cases gk with
  | zero => have := HPP.out; simp [loopR] at this
  | succ m =>
   have hp := HPP.out
   rw [loopR] at hp
   obtain ⟨c0, c1, c2, c3, cf⟩ := HS.out.st.pcells
   have hk3 := HS.out.k3
   have hB1 := HS.out.B1
   obtain ⟨A, c, hr3, _⟩ := HS.out.at_
   have HR3 := jj hr3
   have r3 := zaa hr3 0
   have r2 := zaa HS.out.r2 0
   have f2 := zac HS.out.r2 0
   clear hr3 cf
   by_cases he : x.err = 0
   ·have hz : (x.err == 0) = true := by simpa using he
    rw [if_pos he] at hp
    obtain ⟨t, ht⟩ : ∃ t, x.pk = t := ⟨_, rfl⟩
    have HT := jj ht
    rw [ht] at hp
    clear ht
    by_cases hx0 : x.is 7 [42] = true
    ·have hfd : (prodOps.find? fun o => x.is 7 o.1) = some ([42], 3) := by unfold prodOps; simp [hx0]
     rw [hfd] at hp
     obtain ⟨b, s1, e1, e2⟩ := bind_some hp
     obtain ⟨T, s2, e3, e4⟩ := bind_some e2
     obtain ⟨hJ, hT, rfl⟩ := zam e3
     have HGO0 : Hid (x.go 7 [42] = x.nx /\ x.on 7 [42] = true) := jj (by unfold RS.go RS.on; simp [he, hx0])
     have HE4 := jj e4
     have HJ := jj hJ
     have HJN : Hid (∀ (W : World) (A A' : Option Addr) (c c' : Nat), Nodes W.heap.size W (.slice A a.length c) a -> Nodes W.heap.size W (.slice A' b.length c') b -> Calls Tryz.prog 98 #[.agg #[.int .i64 10, .int .i64 0, .int .i64 0, .int .i64 0, .int .i64 3, .string ⟨#[]⟩, .string ⟨#[]⟩, .slice none 0 0, .int .i64 t.p], .slice (some ⟨W.heap.size, 0, none⟩) 2 2] (W.alloc (.cells #[.slice A a.length c, .slice A' b.length c'] 25)) (NPost T (W.alloc (.cells #[.slice A a.length c, .slice A' b.length c'] 25)))) := jj fun W A A' c c' h h' => by rw [hT]; exact zb2 rfl HJ.out h h'
     have HXX : Hid (∀ W, Qs B pb rb W x.nx -> Calls Tryz.prog 163 #[.pointer (some ⟨pb, 0, none⟩)] W (TP B pb rb W b s2)) := jj fun W hW => HAX.out W _ _ _ hW e1
     clear hp hfd e1 e2 e3 e4 hJ hT hx0
     go_wp2_with (first | (go_at_call 32; refine (za1 HS.out.st).mono ?_; rintro e w3 ⟨rfl, hb3⟩; rw [HT.out]; have H3 := jj ((HS.out.below hb3).below (baw w3 (.cells #[.int .i64 t.k, .string t.s, .int .i64 t.n, .int .i64 t.p] 63))); have G3 := jj (anw w3 (.cells #[.int .i64 t.k, .string t.s, .int .i64 t.n, .int .i64 t.p] 63)); have hz3 := ltr HS.out.fr.size hb3.size; clear hb3) | (go_at_call 100; refine (za8 (l := [42]) H3.out.st (zab #[42])).mono ?_; rintro e w4 ⟨rfl, q4, k4⟩; rw [HGO0.out.1] at q4; rw [HGO0.out.2]; have H4 := jj (H3.out.next q4 k4); have G4 := jj (zai k4 H3.out.st G3.out (by omega)); have p3 := zaa G4.out 3; obtain ⟨A5, c5, h5, t5⟩ := H4.out.at_; have p5 := zaa h5 0; have HC5 := jj h5; have HT5 := jj t5; have e2 := zaa H4.out.r2 0; have f3 := zac H4.out.r2 0; clear q4 k4 h5 t5))
     have HD := jj (H4.out.below (br _ _).drew)
     go_region_with (first | (go_at_call 163; refine (HXX.out _ HD.out.st).mono ?_; rintro e w9 ⟨A9, c9, rfl, t9, q9, k9⟩; have H9 := jj (HD.out.next q9 k9); have g9 := zai k9 HD.out.st (G4.out : w4.drew.heap[w3.heap.size]? = _) (by omega); have u3 := zaa g9 3; have v3 := zaa ((Below.heap_alloc w9 (.cells #[.slice A5 a.length c5, .slice A9 b.length c9] 25) _ (age.1 g9).1).trans g9) 3; have u5 := zaa (zai k9 HD.out.st (HC5.out : w4.drew.heap[w1.heap.size]? = _) (by omega)) 0; have HT9 := jj t9; have HT0 := jj ((HT5.out.below (br _ _).drew).fr k9 (fun i hi => by have := ssB HD.out.st hi; omega)); clear t9 q9 k9 g9) | (go_at_call 98; refine (HJN.out w9 _ _ _ _ HT0.out.nodes HT9.out.nodes).mono ?_; rintro e w7 ⟨A7, c7, ps7, rfl, p7, o7, b7⟩; have H7 := jj (H9.out.put b7 (baw w9 _) (NPost.tr p7 o7)); obtain ⟨A8, c8, h8, _⟩ := ((H9.out.below (baw w9 (.cells #[.slice A5 a.length c5, .slice A9 b.length c9] 25))).below b7).at_; have d7 := zaa h8 0; have d8 := zac h8 0; clear p7 o7 b7 h8))
     all_goals
      go_wp2
      go_roundg m
      case measure => omega
      case rel => exact ⟨T, _, H7, HE4⟩
    by_cases hx1 : x.is 7 [47] = true
    ·have hfd : (prodOps.find? fun o => x.is 7 o.1) = some ([47], 4) := by unfold prodOps; simp [hx0, hx1]
     rw [hfd] at hp
     obtain ⟨b, s1, e1, e2⟩ := bind_some hp
     obtain ⟨T, s2, e3, e4⟩ := bind_some e2
     obtain ⟨hJ, hT, rfl⟩ := zam e3
     have HGO0 : Hid (x.go 7 [42] = x /\ x.on 7 [42] = false) := jj (by unfold RS.go RS.on; simp [he, hx0])
     have HGO1 : Hid (x.go 7 [47] = x.nx /\ x.on 7 [47] = true) := jj (by unfold RS.go RS.on; simp [he, hx1])
     have HE4 := jj e4
     have HJ := jj hJ
     have HJN : Hid (∀ (W : World) (A A' : Option Addr) (c c' : Nat), Nodes W.heap.size W (.slice A a.length c) a -> Nodes W.heap.size W (.slice A' b.length c') b -> Calls Tryz.prog 98 #[.agg #[.int .i64 10, .int .i64 0, .int .i64 0, .int .i64 0, .int .i64 4, .string ⟨#[]⟩, .string ⟨#[]⟩, .slice none 0 0, .int .i64 t.p], .slice (some ⟨W.heap.size, 0, none⟩) 2 2] (W.alloc (.cells #[.slice A a.length c, .slice A' b.length c'] 25)) (NPost T (W.alloc (.cells #[.slice A a.length c, .slice A' b.length c'] 25)))) := jj fun W A A' c c' h h' => by rw [hT]; exact zb2 rfl HJ.out h h'
     have HXX : Hid (∀ W, Qs B pb rb W x.nx -> Calls Tryz.prog 163 #[.pointer (some ⟨pb, 0, none⟩)] W (TP B pb rb W b s2)) := jj fun W hW => HAX.out W _ _ _ hW e1
     clear hp hfd e1 e2 e3 e4 hJ hT hx0 hx1
     go_wp2_with (first | (go_at_call 32; refine (za1 HS.out.st).mono ?_; rintro e w3 ⟨rfl, hb3⟩; rw [HT.out]; have H3 := jj ((HS.out.below hb3).below (baw w3 (.cells #[.int .i64 t.k, .string t.s, .int .i64 t.n, .int .i64 t.p] 63))); have G3 := jj (anw w3 (.cells #[.int .i64 t.k, .string t.s, .int .i64 t.n, .int .i64 t.p] 63)); have hz3 := ltr HS.out.fr.size hb3.size; clear hb3) | (go_at_call 100; refine (za8 (l := [47]) H4.out.st (zab #[47])).mono ?_; rintro e w5 ⟨rfl, q4, k4⟩; rw [HGO1.out.1] at q4; rw [HGO1.out.2]; have H5 := jj (H4.out.next q4 k4); have G5 := jj (zai k4 H4.out.st G4.out (by omega)); have p3 := zaa G5.out 3; obtain ⟨A5, c5, h5, t5⟩ := H5.out.at_; have p5 := zaa h5 0; have HC5 := jj h5; have HT5 := jj t5; have e2 := zaa H5.out.r2 0; have f3 := zac H5.out.r2 0; clear q4 k4 h5 t5) | (go_at_call 100; refine (za8 (l := [42]) H3.out.st (zab #[42])).mono ?_; rintro e w4 ⟨rfl, q4, k4⟩; rw [HGO0.out.1] at q4; rw [HGO0.out.2]; have H4 := jj (H3.out.next q4 k4); have G4 := jj (zai k4 H3.out.st G3.out (by omega)); have p3 := zaa G4.out 3; obtain ⟨A5, c5, h5, t5⟩ := H4.out.at_; have p5 := zaa h5 0; have HC5 := jj h5; have HT5 := jj t5; have e2 := zaa H4.out.r2 0; have f3 := zac H4.out.r2 0; clear q4 k4 h5 t5))
     have HD := jj (H5.out.below (br _ _).drew)
     go_region_with (first | (go_at_call 163; refine (HXX.out _ HD.out.st).mono ?_; rintro e w9 ⟨A9, c9, rfl, t9, q9, k9⟩; have H9 := jj (HD.out.next q9 k9); have g9 := zai k9 HD.out.st (G5.out : w5.drew.heap[w3.heap.size]? = _) (by omega); have u3 := zaa g9 3; have v3 := zaa ((Below.heap_alloc w9 (.cells #[.slice A5 a.length c5, .slice A9 b.length c9] 25) _ (age.1 g9).1).trans g9) 3; have u5 := zaa (zai k9 HD.out.st (HC5.out : w5.drew.heap[w1.heap.size]? = _) (by omega)) 0; have HT9 := jj t9; have HT0 := jj ((HT5.out.below (br _ _).drew).fr k9 (fun i hi => by have := ssB HD.out.st hi; omega)); clear t9 q9 k9 g9) | (go_at_call 98; refine (HJN.out w9 _ _ _ _ HT0.out.nodes HT9.out.nodes).mono ?_; rintro e w7 ⟨A7, c7, ps7, rfl, p7, o7, b7⟩; have H7 := jj (H9.out.put b7 (baw w9 _) (NPost.tr p7 o7)); obtain ⟨A8, c8, h8, _⟩ := ((H9.out.below (baw w9 (.cells #[.slice A5 a.length c5, .slice A9 b.length c9] 25))).below b7).at_; have d7 := zaa h8 0; have d8 := zac h8 0; clear p7 o7 b7 h8))
     all_goals
      go_wp2
      go_roundg m
      case measure => omega
      case rel => exact ⟨T, _, H7, HE4⟩
    have hfd : (prodOps.find? fun o => x.is 7 o.1) = none := by unfold prodOps; simp [hx0, hx1]
    rw [hfd] at hp
    cases hp
    have HGO0 : Hid (sf.go 7 [42] = sf /\ sf.on 7 [42] = false) := jj (by unfold RS.go RS.on; simp [he, hx0])
    have HGO1 : Hid (sf.go 7 [47] = sf /\ sf.on 7 [47] = false) := jj (by unfold RS.go RS.on; simp [he, hx1])
    clear hfd hx0 hx1
    go_wp2_with (first | (go_at_call 32; refine (za1 HS.out.st).mono ?_; rintro e w3 ⟨rfl, hb3⟩; rw [HT.out]; have H3 := jj ((HS.out.below hb3).below (baw w3 (.cells #[.int .i64 t.k, .string t.s, .int .i64 t.n, .int .i64 t.p] 63))); have G3 := jj (anw w3 (.cells #[.int .i64 t.k, .string t.s, .int .i64 t.n, .int .i64 t.p] 63)); have hz3 := ltr HS.out.fr.size hb3.size; clear hb3) | (go_at_call 100; refine (za8 (l := [47]) H4.out.st (zab #[47])).mono ?_; rintro e w5 ⟨rfl, q4, k4⟩; rw [HGO1.out.1] at q4; rw [HGO1.out.2]; have H5 := jj (H4.out.next q4 k4); have G5 := jj (zai k4 H4.out.st G4.out (by omega)); have p3 := zaa G5.out 3; obtain ⟨A5, c5, h5, t5⟩ := H5.out.at_; have p5 := zaa h5 0; have HC5 := jj h5; have HT5 := jj t5; have e2 := zaa H5.out.r2 0; have f3 := zac H5.out.r2 0; clear q4 k4 h5 t5) | (go_at_call 100; refine (za8 (l := [42]) H3.out.st (zab #[42])).mono ?_; rintro e w4 ⟨rfl, q4, k4⟩; rw [HGO0.out.1] at q4; rw [HGO0.out.2]; have H4 := jj (H3.out.next q4 k4); have G4 := jj (zai k4 H3.out.st G3.out (by omega)); have p3 := zaa G4.out 3; obtain ⟨A5, c5, h5, t5⟩ := H4.out.at_; have p5 := zaa h5 0; have HC5 := jj h5; have HT5 := jj t5; have e2 := zaa H4.out.r2 0; have f3 := zac H4.out.r2 0; clear q4 k4 h5 t5))
    exact bodyPost_ret (res137 _ _ w.heap.size A5 _ c5 rfl (by go_simp)) rfl ⟨A5, c5, rfl, H5.out.out HC5.out⟩
   ·have hz : (x.err == 0) = false := by simpa using he
    rw [if_neg he] at hp
    cases hp
    go_wp2
    exact bodyPost_ret (res137 _ _ w.heap.size A _ c rfl (by go_simp)) rfl ⟨A, c, rfl, HS.out.out HR3.out⟩
end
end Go.Proofs.YtjakeidbajkdcaaGreatDoor.B
