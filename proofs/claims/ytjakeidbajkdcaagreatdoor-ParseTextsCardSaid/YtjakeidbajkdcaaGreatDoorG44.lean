/- Joined by program. -/
import Derived.Test.YtjakeidbajkdcaaGreatDoorG41
import Derived.Test.YtjakeidbajkdcaaGreatDoorG43
import Derived.Test.YtjakeidbajkdcaaGreatDoorG19
import Derived.Test.YtjakeidbajkdcaaGreatDoorG18
import Derived.Test.YtjakeidbajkdcaaGreatDoorG13
import Derived.Test.YtjakeidbajkdcaaGreatDoorG34
import Derived.Test.YtjakeidbajkdcaaGreatDoorG07
import Derived.KernelRfl
import Derived.RegionTactic
import Derived.BigGuardPart
set_option maxRecDepth 100000
set_option maxHeartbeats 8000000
namespace Go.Proofs.YtjakeidbajkdcaaGreatDoor.A
open T Go.RowKit L
noncomputable def asked (s : ByteArray) : List Nd × Int × Int := if err s = 0 then told (whole (place s) (tks s)) else ([], place s, err s)
theorem zxs {B B' : Nat} {W : World} {v : Value} {ps : List (Nd × Value)} (h : OwnN B' W v ps) (hB : B <= B') : OwnN B W v ps := ⟨zbi h.1 hB, fun x hx => zbi (h.2 x hx) hB⟩
theorem zgv {x : Nd} (h : Clonable x) : Small x := ⟨by have := h.1; omega, by have := h.2.1; omega, h.2.2.1, fun f hf => by have := h.2.2.2 f hf; omega⟩
theorem zpz {rb b B : Nat} {w w' : World} (h : Kpt rb b w w') (hr : B <= rb) (hb : B <= b) (hn : ∀ k, nbk w rb = some k -> B <= k) (hB : B <= w.heap.size) : Below B w w' :=
 h.fr.below (fun k hk => hk.elim (fun e => e ▸ hr) fun hk => hk.elim (fun e => e ▸ hb) (hn k)) hB
theorem zrv {l : List Tk} {E : Int} (hl : l.length <= 200000) (ht : ∀ t ∈ l, t.s.size <= 281474976710656) : ∃ a s1, exprP 101 ⟨l, E, false, 0, 0, [], 0⟩ = some (a, s1) /\
  ((∃ e p, told (whole E l) = ([], p, e) /\ s1.fin.err = e /\ s1.fin.place = p /\ e ≠ 0) ∨ (s1.fin.err = 0 /\ told (whole E l) = (if mayE s1.fin.N = 0 then s1.fin.N else [], 0, mayE s1.fin.N) /\ (∀ x ∈ s1.fin.N, Clonable x) /\ s1.fin.N.length <= 1000000)) := by
 have h : Sim [] ⟨l, E, false, 0, 0, [], 0⟩ (fi ⟨l, E, false, 0, 0, [], 0⟩ + 4) (ex E l) (exprP 101 ⟨l, E, false, 0, 0, [], 0⟩) := (zf1 (need .expr l.length)).expr 101 0 ⟨l, E, false, 0, 0, [], 0⟩ ⟨rfl, rfl⟩ rfl (by omega) (by omega) (by simp [fi]; omega) (lrf _)
 have hcl : ∀ a s1, exprP 101 ⟨l, E, false, 0, 0, [], 0⟩ = some (a, s1) -> ∀ x ∈ s1.N, Clonable x := fun a s1 hx x hm => (ztt 101 _ _ ⟨ht, fun x hx => by cases hx⟩ hx).2 x hm
 cases hx : ex E l with
 | ok t r =>
  have h2 := h
  rw [hx] at h2
  simp only [Sim] at h2
  obtain ⟨k1, k2, k3⟩ := zkn hx
  rw [zob k1] at h2
  refine ⟨_, _, h2, ?_⟩
  have hs := hcl _ _ h2
  cases r with
  | nil =>
   refine .inr ⟨rfl, ?_, hs, by show t.length <= _; omega⟩
   show told (whole E l) = (if mayE t = 0 then t else [], 0, mayE t)
   unfold whole
   rw [hx]
   unfold told mayE
   simp only
   by_cases hf : far t = true
   ·simp [hf]
   ·simp only [hf]
    by_cases hm : may t = 0 <;> simp [hm]
  | cons y r =>
   refine .inl ⟨5, y.p, ?_, rfl, rfl, by decide⟩
   unfold whole
   rw [hx]
   rfl
 | bad e p =>
  have h2 := h
  rw [hx] at h2
  simp only [Sim] at h2
  obtain ⟨a, s1, e1, hd, _, _⟩ := h2
  refine ⟨a, s1, e1, .inl ⟨e, p, ?_, ?_, ?_, hd.2.2.2.2.2⟩⟩
  ·unfold whole; rw [hx]; rfl
  ·unfold PS.fin; rw [hd.2.1]; exact hd.2.2.2.1
  ·unfold PS.fin; rw [hd.2.1]; exact hd.2.2.2.2.1
theorem res8 (tmps : Array Value) (W : World) (p : Nat) (A : Option Addr) (n c : Nat) (z er : Int) (h2 : tmps[2]?.getD undef = .pointer (some ⟨p, 0, none⟩)) (h3 : tmps[3]?.getD undef = .int .i64 z) (h4 : tmps[4]?.getD undef = .int .i64 er) (hb : W.cell? ⟨p, 0, none⟩ = some (.slice A n c)) :
  Sem.run Tryz.prog (results Tryz.f8 tmps) W = .ok (.tuple #[.agg #[.slice A n c], .int .i64 z, .int .i64 er]) W := by
 simp [results, Tryz.results8, go_sem, h2, h3, h4, hb]
def ParsePost (r : List Nd × Int × Int) (w : World) (e : Ending) (w' : World) : Prop := PPost w.heap.size r.1 r.2.1 r.2.2 w e w'
theorem zpr (s : ByteArray) (hs : s.size <= 200000) (w : World) (hO : On w.heap.size w) (he : err s ≠ 0) : Calls Tryz.prog 8 #[.string s] w (ParsePost ([], place s, err s) w) := by
 have hb0 : Below w.heap.size w (w.alloc (.cells #[.slice none 0 0] 25)) := baw w _
 have HA := jj (zqj s (by omega) (w.alloc (.cells #[.slice none 0 0] 25)) ((hO.on hb0).up hb0.size))
 have HB := jj hb0
 have hz : (err s != 0) = true := by simpa using he
 clear hb0 hO he
 go_enter Tryz.func8, Tryz.ntmps8
 go_wp2_with (go_at_call 24; refine HA.out.mono ?_; rintro e w1 ⟨v, rfl, hrow, hb1⟩; obtain ⟨A, cp, rfl⟩ := zcq hrow; have k0 := (hb1.cell (p := ⟨w.heap.size, 0, none⟩) (by simp)).trans (zaa (anw w (.cells #[.slice none 0 0] 25)) 0); have k2 : w1.frozen? ⟨w.heap.size, 0, none⟩ = false := (hb1.frozen (p := ⟨w.heap.size, 0, none⟩) (by simp)).trans (zac (anw w (.cells #[.slice none 0 0] 25)) 0); have HX := jj hb1; clear hb1 hrow)
 exact bodyPost_ret (res8 _ _ w.heap.size none 0 0 _ _ rfl rfl rfl (by go_simp)) rfl ⟨_, [], rfl, rfl, zcp _ _, (HB.out.trans (HX.out.mono (by simp))).setCell (p := ⟨w.heap.size, 0, none⟩) (lrf _) _⟩
theorem zwf {B r0 j : Nat} {W : World} {v u : Value} {ps : List (Nd × Value)} (h : OwnN B W v ps) (hr : r0 < B) : OwnN B (W.setCell ⟨r0, j, none⟩ u) v ps := by
 refine ⟨⟨h.1.1, ?_⟩, fun x hx => ⟨(h.2 x hx).1, ?_⟩⟩
 ·rcases h.1.2 with e0 | ⟨g, cap, cur, e1, e2, e3, e4⟩
  ·exact .inl e0
  ·exact .inr ⟨g, cap, cur, e1, e2, (zaf _ _ _ _ _ (by omega)).trans e3, e4⟩
 ·rcases (h.2 x hx).2 with e0 | ⟨g, cap, cur, e1, e2, e3, e4⟩
  ·exact .inl e0
  ·exact .inr ⟨g, cap, cur, e1, e2, (zaf _ _ _ _ _ (by omega)).trans e3, e4⟩
theorem zvg {rb b k : Nat} {w w' : World} {cs : Array Value} {t : TypeId} (h : Kpt rb b w w') (hk : w.heap[k]? = some (.cells cs t (0, 0))) (hr : k ≠ rb) (hb : k ≠ b) (hn : nbk w rb ≠ some k) : w'.heap[k]? = some (.cells cs t (0, 0)) :=
 (h.fr.block k (age.1 hk).1 fun hh => hh.elim hr fun hh => hh.elim hb hn).trans hk
structure Stage (w W : World) (rb b : Nat) (s : PS) : Prop where
 st : St (fun _ => False) (rb + 1) rb b W s
 r0 : W.heap[w.heap.size]? = some (.cells #[.slice none 0 0] 25 (0, 0))
 bl : Below w.heap.size w W
 hb : w.heap.size < b
 hr : w.heap.size < rb
theorem Stage.next {w W W' : World} {rb b : Nat} {s s' : PS} (h : Stage w W rb b s) (h' : St (fun _ => False) (rb + 1) rb b W' s') (k : Kpt rb b W W') : Stage w W' rb b s' := by
 have h1 := h.hb; have h2 := h.hr
 have hn : ∀ k, nbk W rb = some k -> rb + 1 <= k := fun k hk => (h.st.nbB k hk).1
 have hw := h.bl.size
 exact ⟨h', zvg k h.r0 (by omega) (by omega) (fun e => by have := hn _ e; omega), h.bl.trans (zpz k (by omega) (by omega) (fun k hk => by have := hn _ hk; omega) hw), h1, h2⟩
theorem zn4 {w W : World} {rb b : Nat} {s1 : PS} {r : List Nd × Int × Int} (hK : Kws w.heap.size w) (h : Stage w W rb b s1)
  (he : (∃ e p, r = ([], p, e) /\ s1.err = e /\ s1.place = p /\ e ≠ 0) ∨ (s1.err = 0 /\ r = (if mayE s1.N = 0 then s1.N else [], 0, mayE s1.N) /\ (∀ x ∈ s1.N, Clonable x) /\ s1.N.length <= 1000000)) :
  Calls Tryz.prog 28 #[.pointer (some ⟨rb, 0, none⟩)] W (PPost (rb + 1) r.1 r.2.1 r.2.2 W) := by
 rcases he with ⟨e, p, rfl, rfl, rfl, h0⟩ | ⟨h0, rfl, h1, h2⟩
 ·exact zqu h.st h0
 ·exact zo5 h.st h0 (zci (hK.on h.bl) h.bl.size) (fun x hx => zgv (h1 x hx)) h2
theorem stage0 {w w1 w2 : World} {l : List L.Item} {n : Int} {b c : Nat} {A : Option Addr} (h0 : Below w.heap.size w (w.alloc (.cells #[.slice none 0 0] 25))) (h1 : Below (w.alloc (.cells #[.slice none 0 0] 25)).heap.size (w.alloc (.cells #[.slice none 0 0] 25)) w1) (h2 : Below w1.heap.size w1 w2)
  (hR : Rd w2 b A l.length c n) (hc : l.length <= c) (hg : l ≠ [] -> ∃ g, A = some ⟨g, 0, none⟩ /\ HoldsT w2 g l /\ w1.heap.size <= g /\ g < b) (hb : w1.heap.size <= b) (hL : l.length <= 200000) (ht : ∀ x ∈ l, x.1.t.size <= 281474976710656) :
  Stage w (w2.alloc (.cells #[.pointer (some ⟨b, 0, none⟩), .slice none 0 0, .int .i64 0, .int .i64 0, .int .i64 0] 51)) w2.heap.size b ⟨l.map tkOf, n, false, 0, 0, [], 0⟩ := by
 have e1 := h1.size
 have e2 := h2.size
 have e3 : (w.alloc (.cells #[.slice none 0 0] 25)).heap.size = w.heap.size + 1 := by simp
 refine ⟨made (w := w1) hR hc hg (by omega) ht, ?_, ?_, by omega, by omega⟩
 ·rw [Below.heap_alloc _ _ _ (by omega), h2.block _ (by omega), h1.block _ (by omega)]
  exact anw w _
 ·exact (h0.trans ((h1.mono (by omega)).trans (h2.mono (by omega)))).alloc (by omega) _
theorem zl8 (s : ByteArray) (hs : s.size <= 200000) (w : World) (hO : On w.heap.size w) (hK : Kws w.heap.size w) (he : err s = 0) : Calls Tryz.prog 8 #[.string s] w (ParsePost (told (whole (place s) (tks s))) w) := by
 have hb0 : Below w.heap.size w (w.alloc (.cells #[.slice none 0 0] 25)) := baw w _
 have HA := jj (zqj s (by omega) (w.alloc (.cells #[.slice none 0 0] 25)) ((hO.on hb0).up hb0.size))
 have HB := jj hb0
 have hz : (err s != 0) = false := by simpa using he
 have HL : Hid ((toks s).length <= 200000) := jj (ltr (zes s) hs)
 have HT : Hid (∀ x ∈ toks s, x.1.t.size <= 281474976710656) := jj fun x hx => by have := (zg2 s x hx).1; omega
 have HKw := jj hK
 obtain ⟨a, s1, hx, hend⟩ := zrv (l := tks s) (E := place s) (by rw [tks, List.length_map]; exact HL.out) (fun t ht => by obtain ⟨x, hx, rfl⟩ := List.mem_map.1 ht; exact HT.out x hx)
 have HX := jj hx
 have HE := jj hend
 clear hb0 hO he hx hend hK
 go_enter Tryz.func8, Tryz.ntmps8
 go_wp2_with (first | (go_at_call 24; refine HA.out.mono ?_; rintro e w1 ⟨v, rfl, hrow, hb1⟩; obtain ⟨A, cp, rfl⟩ := zcq hrow; have HR := jj hrow; have H1 := jj hb1; clear hb1 hrow) | (go_at_call 25; refine (zxv w1 (toks s) _ _ (by have := HL.out; omega) HR.out).mono ?_; rintro e w2 ⟨b, A2, c2, rfl, n1, n2, n3, n4, hb2⟩; have N1 := jj n1; have N3 := jj n3; have HS := jj (stage0 HB.out H1.out hb2 n1 n2 n3 n4 HL.out HT.out); clear n1 n2 n3 n4 hb2 H1 HR) | (go_at_call 26; refine (zsh 101 _ _ _ _ HS.out.st HX.out).mono ?_; rintro e w4 ⟨rfl, h4, k4⟩; have HS4 := jj (HS.out.next h4 k4); clear h4 k4) | (go_at_call 27; refine (zvx HS4.out.st).mono ?_; rintro e w5 ⟨rfl, h5, k5⟩; have HS5 := jj (HS4.out.next h5 k5); clear h5 k5) | (go_at_call 28; refine (zn4 HKw.out HS5.out HE.out).mono ?_; rintro e w6 ⟨v6, ps, rfl, h1, h2, h3⟩; obtain ⟨A6, c6, rfl⟩ := zcq h2.1; have f0 : w6.heap[w.heap.size]? = some (.cells #[.slice none 0 0] 25 (0, 0)) := (h3.block _ (age.1 HS5.out.r0).1).trans HS5.out.r0; have f1 := zaa f0 0; have f2 := zac f0 0; have HF := jj h1; have HO6 := jj h2; have HB6 := jj h3; clear h1 h2 h3))
 have hr := HS5.out.hr
 exact bodyPost_ret (res8 _ _ w.heap.size A6 _ c6 _ _ rfl rfl rfl (by go_simp)) rfl ⟨_, ps, rfl, HF.out, zxs (zwf HO6.out (by omega)) (by omega), ((HS5.out.bl.trans (HB6.out.mono HS5.out.bl.size))).setCell (p := ⟨w.heap.size, 0, none⟩) (lrf _) _⟩
theorem zd1 (s : ByteArray) (hs : s.size <= 200000) (w : World) (hO : On w.heap.size w) (hK : Kws w.heap.size w) : Calls Tryz.prog 8 #[.string s] w (ParsePost (asked s) w) := by
 by_cases he : err s = 0
 ·rw [asked, if_pos he]; exact zl8 s hs w hO hK he
 ·rw [asked, if_neg he]; exact zpr s hs w hO he
open T Go.RowKit
theorem zwb (f : Fld) : fe f f = true := by simp [fe]
theorem zxj (x : Nd) : sn x x = true := by
 have h : les x.l x.l = true := zno (fun j f g h1 h2 => by rw [h1] at h2; cases h2; exact zwb f) rfl
 simp [sn, lf, h]
theorem zwa (l : List Nd) : ln l l = true := by
 rw [ln, zqd (fun j x y h1 h2 => by rw [h1] at h2; cases h2; exact zxj x) rfl]; simp
theorem ziv (l : List Nd) (v u : Value) (w : World) (hv : Nodes w.heap.size w v l) (hu : Nodes w.heap.size w u l) (hL : l.length <= 1000000) (hS1 : ∀ x ∈ l, x.l.length <= 1000000) :
  Calls Tryz.prog 10 #[.agg #[v], .agg #[u]] w fun e w' => e = .returned (.bool true) /\ Below w.heap.size w w' := by
 obtain ⟨W2, hW2⟩ : ∃ W2, (w.alloc (.cells #[v] 25)).alloc (.cells #[u] 25) = W2 := ⟨_, rfl⟩
 have hB2 : Below w.heap.size w W2 := by rw [<- hW2]; exact (baw w _).alloc (by simp) _
 have hX0 : W2.heap[w.heap.size]? = some (.cells #[v] 25 (0, 0)) := by rw [<- hW2]; exact nextAt (newAt rfl)
 have hY0 : W2.heap[w.heap.size + 1]? = some (.cells #[u] 25 (0, 0)) := by rw [<- hW2]; exact newAt (by simp)
 have HR := jj (znn l l v u W2 ((hv.below hB2).mono hB2.size) ((hu.below hB2).mono hB2.size) hL hS1)
 rw [zwa] at HR
 rw [<- hW2] at HR
 obtain ⟨A, c1, rfl, _, _, hq⟩ := hv
 obtain ⟨C, c2, rfl, _, _, hr⟩ := hu
 obtain ⟨L, hl⟩ : ∃ L, l.length = L := ⟨_, rfl⟩
 rw [hl] at hq hr hL hX0 hY0 hW2 HR ⊢
 have HQ := jj hq
 have HP := jj hr
 have HL := jj hl
 have hsz : w.heap.size + 1 < W2.heap.size := (age.1 hY0).1
 have HB := jj hB2
 have HX := jj hX0
 have HY := jj hY0
 have HW2 := jj hW2
 clear hq hr hl hB2 hX0 hY0 hS1 hW2
 go_enter Tryz.func10, Tryz.ntmps10
 go_wp2_with (go_at_call 33; refine HR.out.mono ?_; rintro e w1 ⟨rfl, hb⟩; rw [HW2.out] at hb; have HBB := jj hb; clear hb)
 go_loopw [5] (fun i wr => ∃ q : Nat, i = .int .i64 (q : Int) /\ q <= L /\ Hid (Below W2.heap.size W2 wr)) (fun i _ => L - (intOf i).toNat)
 case atStart => exact ⟨0, rfl, Nat.zero_le _, HBB⟩
 case round =>
  obtain ⟨q, rfl, hq, HBR⟩ := hrel
  have cx : wr.cell? ⟨w.heap.size, 0, none⟩ = some (.slice A L c1) := (HBR.out.cell (p := ⟨w.heap.size, 0, none⟩) (by simp; omega)).trans (zaa HX.out 0)
  have cy : wr.cell? ⟨w.heap.size + 1, 0, none⟩ = some (.slice C L c2) := (HBR.out.cell (p := ⟨w.heap.size + 1, 0, none⟩) (by simp; omega)).trans (zaa HY.out 0)
  have HBW : Hid (Below w.heap.size w wr) := jj (HB.out.trans (HBR.out.mono HB.out.size))
  have hwz := HBR.out.size
  by_cases hlt : q < L
  ·obtain ⟨b1, o1, rfl, hb1, hf1⟩ := HQ.out (by omega)
   obtain ⟨b2, o2, rfl, hb2, hf2⟩ := HP.out (by omega)
   obtain ⟨x, hx⟩ : ∃ x, l[q]? = some x := ⟨_, List.getElem?_eq_getElem (by rw [HL.out]; exact hlt)⟩
   obtain ⟨fv, hfl, m0, m1, m2, m3, m4, m5, m6, m7, m8⟩ := (hf1 q x hx).below HBW.out hb1
   obtain ⟨gv, hgl, n0, n1, n2, n3, n4, n5, n6, n7, n8⟩ := (hf2 q x hx).below HBW.out hb2
   clear hfl hgl hf1 hf2 hx
   go_wp2
   go_quiet (fail)
   go_wp2
   go_roundw
   case rel => exact ⟨q + 1, by go_num, by omega, jj (HBR.out.trans (zav _ _ nq))⟩
   case measure => simp [intOf]; omega
  ·obtain rfl : q = L := by omega
   go_wp2
   go_ret
   exact ⟨rfl, HBW.out⟩
open T Go.RowKit
def exS : ByteArray := ⟨#[102, 117, 110, 32, 120, 32, 45, 62, 32, 120, 32, 43, 32, 49]⟩
def exI : List L.Item := [(⟨1, ⟨#[102, 117, 110]⟩, 0, 3, 0⟩, 0), (⟨2, ⟨#[120]⟩, 0, 1, 0⟩, 4), (⟨7, ⟨#[45, 62]⟩, 0, 2, 0⟩, 6), (⟨2, ⟨#[120]⟩, 0, 1, 0⟩, 9), (⟨7, ⟨#[43]⟩, 0, 1, 0⟩, 11), (⟨4, ⟨#[]⟩, 1, 1, 0⟩, 13)]
theorem zh5 : L.items exS = exI := by kernel_rfl
theorem ztq : L.toks exS = exI /\ L.place exS = 14 /\ L.err exS = 0 := L.zf3 (s := exS) zh5.symm (by decide)
def exT : List Nd := [{ mk 4 9 with nm := ⟨#[120]⟩ }, { mk 1 13 with n := 1 }, { mk 10 11 with n := 1, a := 0, b := 1 }, { mk 5 0 with nm := ⟨#[120]⟩, a := 2 }]
theorem zxc : whole 14 (exI.map tkOf) = .ok exT [] := by kernel_rfl
theorem zhq {i : Nat} {x : Nd} (h : exT[i]? = some x) : (i = 0 /\ x = { mk 4 9 with nm := ⟨#[120]⟩ }) ∨ (i = 1 /\ x = { mk 1 13 with n := 1 }) ∨ (i = 2 /\ x = { mk 10 11 with n := 1, a := 0, b := 1 }) ∨ (i = 3 /\ x = { mk 5 0 with nm := ⟨#[120]⟩, a := 2 }) := by
 match i, h with
 | 0, h => exact .inl ⟨rfl, by simpa [exT] using h.symm⟩
 | 1, h => exact .inr (.inl ⟨rfl, by simpa [exT] using h.symm⟩)
 | 2, h => exact .inr (.inr (.inl ⟨rfl, by simpa [exT] using h.symm⟩))
 | 3, h => exact .inr (.inr (.inr ⟨rfl, by simpa [exT] using h.symm⟩))
 | n + 4, h => simp [exT] at h
theorem znu : formed exT := by
 refine ⟨?_, ?_, ⟨?_, ?_⟩, ?_⟩
 ·intro x hx
  obtain ⟨i, hi⟩ := List.getElem?_of_mem hx
  rcases zhq hi with ⟨_, rfl⟩ | ⟨_, rfl⟩ | ⟨_, rfl⟩ | ⟨_, rfl⟩ <;> kernel_rfl
 ·intro i x h
  rcases zhq h with ⟨rfl, rfl⟩ | ⟨rfl, rfl⟩ | ⟨rfl, rfl⟩ | ⟨rfl, rfl⟩ <;> (intro m hm; revert m; decide)
 ·have : allKids exT = [0, 1, 2] := rfl
  rw [this]; decide
 ·intro j hj
  have : allKids exT = [0, 1, 2] := rfl
  have hl : exT.length = 4 := rfl
  rw [this]
  rw [hl] at hj
  obtain rfl | rfl | rfl : j = 0 ∨ j = 1 ∨ j = 2 := by omega
  ·decide
  ·decide
  ·decide
 ·intro i x h
  rcases zhq h with ⟨rfl, rfl⟩ | ⟨rfl, rfl⟩ | ⟨rfl, rfl⟩ | ⟨rfl, rfl⟩ <;> (intro hk; exact absurd hk (by decide))
theorem zzp : may exT = 0 := by
 unfold may
 rw [if_neg (by decide), if_neg (not_not_intro znu), if_neg (by rw [show root exT = 3 from rfl]; decide)]
theorem zss : asked exS = (exT, 0, 0) := by
 obtain ⟨h1, h2, h3⟩ := ztq
 unfold asked tks
 rw [if_pos h3, h1, h2, zxc]
 unfold told
 simp only
 rw [if_neg (by decide), if_pos zzp]
open T Go.RowKit
theorem z1l {w : World} {v : Value} {ps : List (Nd × Value)} {B : Nat} (h : ps.map Prod.fst = exT) (ho : OwnN B w v ps) : ∃ g c, v = .slice (some ⟨g, 0, none⟩) 4 c /\ g < w.heap.size /\ w.cell? ⟨g, 0, none⟩ = some (.int .i64 4) /\ w.cell? ⟨g, 18, none⟩ = some (.int .i64 10) /\ w.cell? ⟨g, 27, none⟩ = some (.int .i64 5) := by
 have hn := zdg ho
 rw [h] at hn
 obtain ⟨A, c, rfl, _, _, hq⟩ := hn
 obtain ⟨b, o, rfl, hb, hf⟩ := hq (by decide)
 have ho0 : o = 0 := by
  rcases ho.1.2 with ⟨e, _⟩ | ⟨g, cap, cur, e, _⟩
  ·cases e
  ·injection e with e _ _; injection e with e; injection e
 subst ho0
 obtain ⟨_, _, a0, _⟩ := hf 0 _ rfl
 obtain ⟨_, _, a2, _⟩ := hf 2 _ rfl
 obtain ⟨_, _, a3, _⟩ := hf 3 _ rfl
 exact ⟨b, c, rfl, hb, a0, a2, a3⟩
theorem ziu (w : World) (hO : L.On w.heap.size w) : Calls Tryz.prog 11 #[] w fun e w' => e = .returned (.bool true) /\ Below w.heap.size w w' := by
 have HP : Hid (Calls Tryz.prog 8 #[.string ⟨#[102, 117, 110, 32, 120, 32, 45, 62, 32, 120, 32, 43, 32, 49]⟩] w fun e w' => ∃ g c, e = .returned (.tuple #[.agg #[.slice (some ⟨g, 0, none⟩) 4 c], .int .i64 0, .int .i64 0]) /\ g < w'.heap.size /\ w'.cell? ⟨g, 0, none⟩ = some (.int .i64 4) /\ w'.cell? ⟨g, 18, none⟩ = some (.int .i64 10) /\ w'.cell? ⟨g, 27, none⟩ = some (.int .i64 5) /\ Below w.heap.size w w') := jj (by
  refine (zd1 exS (by decide) w hO hO.1).mono ?_
  rintro e w' ⟨v, ps, rfl, h1, h2, h3⟩
  rw [zss] at h1 ⊢
  obtain ⟨g, c, rfl, k1, k2, k3, k4⟩ := z1l h1 h2
  exact ⟨g, c, rfl, k1, k2, k3, k4, h3⟩)
 clear hO
 go_enter Tryz.func11, Tryz.ntmps11
 go_wp2_with (go_at_call 8; refine HP.out.mono ?_; rintro e w1 ⟨g, c, rfl, hg, c0, c2, c3, hb⟩; have HB := jj hb; have d0 := (baw w1 (.cells #[.slice (some ⟨g, 0, none⟩) 4 c] 25)).cell (p := ⟨g, 0, none⟩) hg |>.trans c0; have d2 := (baw w1 (.cells #[.slice (some ⟨g, 0, none⟩) 4 c] 25)).cell (p := ⟨g, 18, none⟩) hg |>.trans c2; have d3 := (baw w1 (.cells #[.slice (some ⟨g, 0, none⟩) 4 c] 25)).cell (p := ⟨g, 27, none⟩) hg |>.trans c3; clear hb)
 go_ret
 exact ⟨rfl, HB.out.alloc HB.out.size _⟩
open T Go.RowKit
theorem zji {s t : ByteArray} (ht : s.extract 0 (min (s.size : Int) 1500).toNat = t) (hs : s.size <= 140737488351232) (w : World) : Calls Tryz.prog 7 #[.string s] w fun e w' => e = .returned (.string t) /\ w = w' := by
 subst ht
 go_enter Tryz.func7, Tryz.ntmps7
 go_wp2
 go_ret
 exact ⟨rfl, rfl⟩
end Go.Proofs.YtjakeidbajkdcaaGreatDoor.A
namespace Go.Proofs.YtjakeidbajkdcaaGreatDoor.B
open T Go.RowKit
open A (Fr TkRow)
def SS (pb rb k : Nat) : Prop := k = pb ∨ k = rb
structure Qs (B pb rb : Nat) (w : World) (s : RS) : Prop where
 hpb : pb < B
 hrb : rb < B
 ne : pb ≠ rb
 hB : B <= w.heap.size
 at_ : ∃ A c L k, w.heap[pb]? = some (.cells #[.pointer (some ⟨rb, 0, none⟩), .int .i64 s.err, .int .i64 s.pos, .int .i64 (s.d : Int)] 59 (0, 0)) /\ w.heap[rb]? = some (.cells #[.slice A L.length c, .int .i64 ((k : Nat) : Int), .int .i64 s.E] 57 (0, 0)) /\ k <= L.length /\ s.l = L.drop k /\ (L.length = s.m /\ L.length <= 1000000) /\ (L ≠ [] -> ∃ g o, A = some ⟨g, o, none⟩ /\ g < B /\ g ≠ pb /\ g ≠ rb /\ TkRow w g o L)
section
variable {B pb rb : Nat} {w w' W : World} {s s' : RS}
theorem Qs.heap (h : Qs B pb rb w s) (hs : w.heap.size <= w'.heap.size) (hk : ∀ k, k < B -> w'.heap[k]? = w.heap[k]?) : Qs B pb rb w' s := by
 obtain ⟨h1, h2, h3, h4, A, c, L, k, e1, e2, e3, e4, e5, e6⟩ := h
 refine ⟨h1, h2, h3, ltr h4 hs, A, c, L, k, (hk _ h1).trans e1, (hk _ h2).trans e2, e3, e4, e5, fun h0 => ?_⟩
 obtain ⟨g, o, a1, a2, a3, a4, a5⟩ := e6 h0
 exact ⟨g, o, a1, a2, a3, a4, a5.heap (hk _ a2)⟩
theorem Qs.below (h : Qs B pb rb w s) (hb : Below w.heap.size w w') : Qs B pb rb w' s := h.heap hb.size fun k hk => hb.block k (lltl hk h.hB)
theorem Qs.alloc (h : Qs B pb rb w s) (o : Obj) : Qs B pb rb (w.alloc o) s := h.below (baw w o)
theorem Qs.far {k j : Nat} (h : Qs B pb rb w s) (hk : B <= k) (v : Value) : Qs B pb rb (w.setCell ⟨k, j, none⟩ v) s := h.heap (by simp) fun i hi => zaf _ _ _ _ _ (by omega)
theorem Qs.rlt (h : Qs B pb rb w s) : rb < w.heap.size := lltl h.hrb h.hB
theorem Qs.pcells (h : Qs B pb rb w s) : w.cell? ⟨pb, 0, none⟩ = some (.pointer (some ⟨rb, 0, none⟩)) /\ w.cell? ⟨pb, 1, none⟩ = some (.int .i64 s.err) /\ w.cell? ⟨pb, 2, none⟩ = some (.int .i64 s.pos) /\ w.cell? ⟨pb, 3, none⟩ = some (.int .i64 (s.d : Int)) /\ ∀ j, w.frozen? ⟨pb, j, none⟩ = false := by
 obtain ⟨A, c, L, k, e1, _⟩ := h.at_
 exact ⟨zaa e1 0, zaa e1 1, zaa e1 2, zaa e1 3, fun j => zac e1 j⟩
theorem Qs.none (h : Qs B pb rb w s) (hl : s.l = []) : ∃ A c m, w.cell? ⟨rb, 0, none⟩ = some (.slice A m c) /\ w.cell? ⟨rb, 1, none⟩ = some (.int .i64 ((m : Nat) : Int)) /\ w.cell? ⟨rb, 2, none⟩ = some (.int .i64 s.E) := by
 obtain ⟨A, c, L, k, _, e2, e3, e4, _⟩ := h.at_
 rw [hl] at e4
 have := congrArg List.length e4
 rw [List.length_nil, List.length_drop] at this
 have hk : k = L.length := by omega
 subst hk
 exact ⟨A, c, L.length, zaa e2 0, zaa e2 1, zaa e2 2⟩
theorem Qs.some (h : Qs B pb rb w s) {t : Tk} {r : List Tk} (hl : s.l = t :: r) : ∃ g o c m k, w.cell? ⟨rb, 0, .none⟩ = .some (.slice (.some ⟨g, o, .none⟩) m c) /\ w.cell? ⟨rb, 1, .none⟩ = .some (.int .i64 ((k : Nat) : Int)) /\ w.cell? ⟨rb, 2, .none⟩ = .some (.int .i64 s.E) /\ k < m /\ m <= 1000000 /\ g < w.heap.size /\ A.TAt w g (o + k * 4) t /\ w.frozen? ⟨rb, 1, .none⟩ = false /\ w.heap[rb]? = .some (.cells #[.slice (.some ⟨g, o, .none⟩) m c, .int .i64 ((k : Nat) : Int), .int .i64 s.E] 57 (0, 0)) := by
 have hB := h.hB
 obtain ⟨A, c, L, k, _, e2, e3, e4, e5, e6⟩ := h.at_
 rw [hl] at e4
 have := congrArg List.length e4
 rw [List.length_cons, List.length_drop] at this
 obtain ⟨g, o, rfl, hg, _, _, hr⟩ := e6 (by rintro rfl; simp at this)
 have hk : L[k]? = .some t := by
  have : (L.drop k)[0]? = .some t := by rw [<- e4]; rfl
  rw [List.getElem?_drop] at this; simpa using this
 exact ⟨g, o, c, L.length, k, zaa e2 0, zaa e2 1, zaa e2 2, by omega, e5.2, by omega, hr k t hk, zac e2 1, e2⟩
theorem Qs.step (h : Qs B pb rb w s) {t : Tk} {r : List Tk} (hl : s.l = t :: r) {k : Nat} (hk : w.cell? ⟨rb, 1, .none⟩ = .some (.int .i64 ((k : Nat) : Int))) : Qs B pb rb (w.setCell ⟨rb, 1, .none⟩ (.int .i64 ((k : Int) + 1))) s.nx := by
 obtain ⟨h1, h2, h3, h4, A, c, L, k', e1, e2, e3, e4, e5, e6⟩ := h
 have hc : w.cell? ⟨rb, 1, .none⟩ = .some (.int .i64 ((k' : Nat) : Int)) := zaa e2 1
 rw [hk] at hc
 have hkk : k = k' := by
  have : (k : Int) = (k' : Int) := by simpa using hc
  omega
 subst hkk
 have hln := congrArg List.length (hl.symm.trans e4)
 rw [List.length_cons, List.length_drop] at hln
 refine ⟨h1, h2, h3, by simpa using h4, A, c, L, k + 1, (zaf _ _ _ _ _ h3).trans e1, (zaq e2).trans rfl, by omega, ?_, e5, fun h0 => ?_⟩
 ·show s.l.tail = _
  rw [e4, List.tail_drop]
 ·obtain ⟨g, o, a1, a2, a3, a4, a5⟩ := e6 h0
  exact ⟨g, o, a1, a2, a3, a4, a5.heap (zaf _ _ _ _ _ a4)⟩
theorem Qs.fail_ (h : Qs B pb rb w s) (e p : Int) : Qs B pb rb ((w.setCell ⟨pb, 1, .none⟩ (.int .i64 e)).setCell ⟨pb, 2, .none⟩ (.int .i64 p)) { s with err := e, pos := p } := by
 obtain ⟨h1, h2, h3, h4, A, c, L, k, e1, e2, e3, e4, e5, e6⟩ := h
 refine ⟨h1, h2, h3, by simpa using h4, A, c, L, k, (zaq (zaq e1)).trans rfl, (zaf _ _ _ _ _ (Ne.symm h3)).trans ((zaf _ _ _ _ _ (Ne.symm h3)).trans e2), e3, e4, e5, fun h0 => ?_⟩
 obtain ⟨g, o, a1, a2, a3, a4, a5⟩ := e6 h0
 exact ⟨g, o, a1, a2, a3, a4, a5.heap ((zaf _ _ _ _ _ a3).trans (zaf _ _ _ _ _ a3))⟩
theorem Qs.deep_ (h : Qs B pb rb w s) (d : Nat) : Qs B pb rb (w.setCell ⟨pb, 3, .none⟩ (.int .i64 (d : Int))) { s with d := d } := by
 obtain ⟨h1, h2, h3, h4, A, c, L, k, e1, e2, e3, e4, e5, e6⟩ := h
 refine ⟨h1, h2, h3, by simpa using h4, A, c, L, k, (zaq e1).trans rfl, (zaf _ _ _ _ _ (Ne.symm h3)).trans e2, e3, e4, e5, fun h0 => ?_⟩
 obtain ⟨g, o, a1, a2, a3, a4, a5⟩ := e6 h0
 exact ⟨g, o, a1, a2, a3, a4, a5.heap (zaf _ _ _ _ _ a3)⟩
def Tr (B : Nat) (w : World) (v : Value) (t : List Nd) : Prop := ∃ ps, ps.map Prod.fst = t /\ OwnN B w v ps
theorem Tr.nodes {v : Value} {t : List Nd} (h : Tr B w v t) : Nodes w.heap.size w v t := by
 obtain ⟨ps, rfl, h⟩ := h; exact zdg h
theorem Tr.low {B' : Nat} {v : Value} {t : List Nd} (h : Tr B' w v t) (hB : B <= B') : Tr B w v t := by
 obtain ⟨ps, h1, h2⟩ := h; exact ⟨ps, h1, ⟨zbi h2.1 hB, fun x hx => zbi (h2.2 x hx) hB⟩⟩
theorem Tr.heap {v : Value} {t : List Nd} (h : Tr B w v t) (hk : ∀ k cs ty fr, B <= k -> w.heap[k]? = .some (.cells cs ty fr) -> w'.heap[k]? = w.heap[k]?) : Tr B w' v t := by
 obtain ⟨ps, h1, h2⟩ := h
 refine ⟨ps, h1, ⟨h2.1.1, ?_⟩, fun x hx => ⟨(h2.2 x hx).1, ?_⟩⟩
 ·rcases h2.1.2 with h0 | ⟨g, cap, cur, e1, e2, e3, e4⟩
  ·exact .inl h0
  ·exact .inr ⟨g, cap, cur, e1, e2, (hk g _ _ _ e2 e3).trans e3, e4⟩
 ·rcases (h2.2 x hx).2 with h0 | ⟨g, cap, cur, e1, e2, e3, e4⟩
  ·exact .inl h0
  ·exact .inr ⟨g, cap, cur, e1, e2, (hk g _ _ _ e2 e3).trans e3, e4⟩
theorem Tr.fr {S : Nat -> Prop} {v : Value} {t : List Nd} (h : Tr B w v t) (hf : Fr S w w') (hS : ∀ k, S k -> k < B) : Tr B w' v t :=
 h.heap fun k _ _ _ hk e => hf.block k (age.1 e).1 fun hs => by have := hS k hs; omega
theorem Tr.below {v : Value} {t : List Nd} (h : Tr B w v t) (hb : Below w.heap.size w w') : Tr B w' v t :=
 h.heap fun k _ _ _ _ e => hb.block k (age.1 e).1
theorem Tr.set {v : Value} {t : List Nd} (h : Tr B w v t) {k j : Nat} (u : Value) (hk : k < B) : Tr B (w.setCell ⟨k, j, .none⟩ u) v t :=
 h.heap fun i _ _ _ hi _ => zaf _ _ _ _ _ (by omega)
def VP (B pb rb : Nat) (w : World) (s' : RS) (e : Ending) (w' : World) : Prop := e = .returned (.tuple #[]) /\ Qs B pb rb w' s' /\ Fr (SS pb rb) w w'
def BP (B pb rb : Nat) (w : World) (x : Bool) (s' : RS) (e : Ending) (w' : World) : Prop := e = .returned (.bool x) /\ Qs B pb rb w' s' /\ Fr (SS pb rb) w w'
def XP (B pb rb : Nat) (w : World) (x : ByteArray) (s' : RS) (e : Ending) (w' : World) : Prop := e = .returned (.string x) /\ Qs B pb rb w' s' /\ Fr (SS pb rb) w w'
def TP (B pb rb : Nat) (w : World) (t : List Nd) (s' : RS) (e : Ending) (w' : World) : Prop := ∃ A c, e = .returned (.agg #[.slice A t.length c]) /\ Tr w.heap.size w' (.slice A t.length c) t /\ Qs B pb rb w' s' /\ Fr (SS pb rb) w w'
end
open T Go.RowKit
open A (Fr)
theorem bdr (B : Nat) (W : World) (n : Nat) : Below B W (W.drewN n) := ⟨rfl, rfl, rfl, lrf _, fun _ _ => rfl⟩
theorem set4 {w W : World} (h : Below w.heap.size w W) (a b c d : Value) : Below w.heap.size w ((((W.setCell ⟨w.heap.size, 0, none⟩ a).setCell ⟨w.heap.size, 1, none⟩ b).setCell ⟨w.heap.size, 2, none⟩ c).setCell ⟨w.heap.size, 3, none⟩ d) :=
 (((h.setCell (p := ⟨w.heap.size, 0, none⟩) (lrf _) _).setCell (p := ⟨w.heap.size, 1, none⟩) (lrf _) _).setCell (p := ⟨w.heap.size, 2, none⟩) (lrf _) _).setCell (p := ⟨w.heap.size, 3, none⟩) (lrf _) _
section
variable {B pb rb : Nat} {w w' W : World} {s s' : RS}
theorem za1 (h : Qs B pb rb w s) : Calls Tryz.prog 32 #[.pointer (some ⟨rb, 0, none⟩)] w fun e w' => e = .returned (.agg #[.int .i64 s.pk.k, .string s.pk.s, .int .i64 s.pk.n, .int .i64 s.pk.p]) /\ Below w.heap.size w w' := by
 have hlt := h.rlt
 have hB : Below w.heap.size w (w.alloc (.cells #[.int .i64 0, .string ⟨#[]⟩, .int .i64 0, .int .i64 0] 63)) := baw w _
 have h1 := h.alloc (.cells #[.int .i64 0, .string ⟨#[]⟩, .int .i64 0, .int .i64 0] 63)
 have HB := jj hB
 clear h hB
 cases hl : s.l with
 | nil =>
  obtain ⟨A, c, m, c0, c1, c2⟩ := h1.none hl
  have hd : decide ((m : Int) < (m : Int)) = false := by simp
  have e : s.pk = ⟨0, ⟨#[]⟩, 0, s.E⟩ := by unfold RS.pk; rw [hl]
  rw [e]
  clear h1
  go_enter Tryz.func32, Tryz.ntmps32
  go_wp2
  go_quiet (fail)
  go_wp2
  exact bodyPost_ret (v := .agg #[.int .i64 0, .string ⟨#[]⟩, .int .i64 0, .int .i64 s.E]) (by simp [results, Tryz.results32, go_sem]) rfl ⟨rfl, set4 (HB.out.trans (bdr _ _ _)) _ _ _ _⟩
 | cons t r =>
  obtain ⟨g, o, c, m, k, c0, c1, c2, hk, hm, hg, ⟨t0, t1, t2, t3⟩, hf, _⟩ := h1.some hl
  have hd : decide ((k : Int) < (m : Int)) = true := by simpa using hk
  have e : s.pk = t := by unfold RS.pk; rw [hl]
  rw [e]
  clear h1
  go_enter Tryz.func32, Tryz.ntmps32
  go_wp2
  go_quiet (fail)
  go_wp2
  go_region
  all_goals
   go_wp2
   exact bodyPost_ret (v := .agg #[.int .i64 t.k, .string t.s, .int .i64 t.n, .int .i64 t.p]) (by simp [results, Tryz.results32, go_sem]) rfl ⟨rfl, set4 (HB.out.trans (bdr _ _ _)) _ _ _ _⟩
theorem fr4 {S : Nat -> Prop} {w W : World} (h : Fr S w W) (a b c d : Value) : Fr S w ((((W.setCell ⟨w.heap.size, 0, none⟩ a).setCell ⟨w.heap.size, 1, none⟩ b).setCell ⟨w.heap.size, 2, none⟩ c).setCell ⟨w.heap.size, 3, none⟩ d) :=
 (((h.set _ (.inr (lrf _))).set _ (.inr (lrf _))).set _ (.inr (lrf _))).set _ (.inr (lrf _))
theorem oth1 (W : World) (b j : Nat) (v : Value) (k : Nat) (h : k ≠ b) : (∀ n o, ((W.drewN n).setCell ⟨b, j, none⟩ v).cell? ⟨k, o, none⟩ = W.cell? ⟨k, o, none⟩) /\ (∀ n o, ((W.drewN n).setCell ⟨b, j, none⟩ v).frozen? ⟨k, o, none⟩ = W.frozen? ⟨k, o, none⟩) := by
 have e : ∀ n, ((W.drewN n).setCell ⟨b, j, none⟩ v).heap[k]? = W.heap[k]? := fun n => zaf _ _ _ _ _ h
 exact ⟨fun n o => World.cell?_of_block (a := ⟨k, o, none⟩) (e n), fun n o => by unfold World.frozen?; simp only [e n]⟩
theorem zba (h : Below w.heap.size w w') : Fr (SS pb rb) w w' := Fr.of_below h
theorem z06 {k : Int} {x : List UInt8} (hk : k ≠ 0) : s.is k x = (decide (s.pk.k = k) && (s.pk.s.toList == x)) := by
 unfold RS.is isT RS.pk
 cases hl : s.l with
 | nil => simp [Ne.symm hk]
 | cons t r => rfl
theorem is_b (h : Qs B pb rb w s) (k : Int) (x : ByteArray) (hk : k ≠ 0) (hk4 : k ≠ 4) : Calls Tryz.prog 162 #[.pointer (some ⟨rb, 0, none⟩), .int .i64 k, .string x] w fun e w' => e = .returned (.bool (s.is k x.toList)) /\ Below w.heap.size w w' := by
 have HP := jj (za1 h)
 rw [z06 hk]
 clear h
 obtain ⟨t, ht⟩ : ∃ t, s.pk = t := ⟨_, rfl⟩
 rw [ht] at HP ⊢
 clear ht
 have h4 : (k == 4) = false := by simpa using hk4
 by_cases h1 : t.k = k
 ·subst h1
  have h0 : (t.k != 0) = true := by simpa using hk
  have e : decide (t.k = t.k) = true := by simp
  rw [e, Bool.true_and]
  cases hb : (t.s.toList == x.toList) with
  | false =>
   go_enter Tryz.func162, Tryz.ntmps162
   go_wp2_with (go_at_call 32; refine HP.out.mono ?_; rintro e w1 ⟨rfl, hb1⟩; have HB := jj (hb1.alloc hb1.size (.cells #[.int .i64 t.k, .string t.s, .int .i64 t.n, .int .i64 t.p] 63)); clear hb1)
   go_ret
   exact ⟨rfl, HB.out⟩
  | true =>
   go_enter Tryz.func162, Tryz.ntmps162
   go_wp2_with (go_at_call 32; refine HP.out.mono ?_; rintro e w1 ⟨rfl, hb1⟩; have HB := jj (hb1.alloc hb1.size (.cells #[.int .i64 t.k, .string t.s, .int .i64 t.n, .int .i64 t.p] 63)); clear hb1)
   go_ret
   exact ⟨rfl, HB.out⟩
 ·have e : decide (t.k = k) = false := by simpa using h1
  have hne : (t.k == k) = false := by simpa using h1
  rw [e, Bool.false_and]
  go_enter Tryz.func162, Tryz.ntmps162
  go_wp2_with (go_at_call 32; refine HP.out.mono ?_; rintro e w1 ⟨rfl, hb1⟩; have HB := jj (hb1.alloc hb1.size (.cells #[.int .i64 t.k, .string t.s, .int .i64 t.n, .int .i64 t.p] 63)); clear hb1)
  go_ret
  exact ⟨rfl, HB.out⟩
theorem Qs.nx_nil (h : Qs B pb rb w s) (hl : s.l = []) : s.nx = s := by unfold RS.nx; rw [hl]; cases s; cases hl; rfl
theorem zjk (h : Qs B pb rb w s) : Calls Tryz.prog 135 #[.pointer (some ⟨rb, 0, none⟩)] w fun e w' => e = .returned (.agg #[.int .i64 s.pk.k, .string s.pk.s, .int .i64 s.pk.n, .int .i64 s.pk.p]) /\ Qs B pb rb w' s.nx /\ Fr (SS pb rb) w w' := by
 have h1 := h.alloc (.cells #[.int .i64 0, .string ⟨#[]⟩, .int .i64 0, .int .i64 0] 63)
 have hB1 : Below w.heap.size w (w.alloc (.cells #[.int .i64 0, .string ⟨#[]⟩, .int .i64 0, .int .i64 0] 63)) := baw w _
 have HP := jj (za1 h1)
 have H1 := jj h1
 have HB1 := jj hB1
 have hrl := h.rlt
 have hBs := h.hB
 clear h1 hB1
 obtain ⟨t, ht⟩ : ∃ t, s.pk = t := ⟨_, rfl⟩
 rw [ht] at HP ⊢
 have HT := jj ht
 clear ht
 cases hl : s.l with
 | nil =>
  have hn := h.nx_nil hl
  have HL := jj hl
  clear h hl
  rw [hn]
  clear hn
  go_enter Tryz.func135, Tryz.ntmps135
  go_wp2_with (go_at_call 32; refine HP.out.mono ?_; rintro e w1 ⟨rfl, hb1⟩; have H2 := jj ((H1.out.below hb1).alloc (.cells #[.int .i64 t.k, .string t.s, .int .i64 t.n, .int .i64 t.p] 63)); have HB := jj (HB1.out.trans ((hb1.alloc hb1.size (.cells #[.int .i64 t.k, .string t.s, .int .i64 t.n, .int .i64 t.p] 63)).mono (by simp))); obtain ⟨A, c, m, c0, c1, c2⟩ := H2.out.none HL.out; have hd : decide ((m : Int) < (m : Int)) = false := (by simp); have hb := hb1.alloc hb1.size (.cells #[.int .i64 t.k, .string t.s, .int .i64 t.n, .int .i64 t.p] 63); obtain ⟨hc, hf⟩ := L.bcell hb; clear hb hb1)
  go_quiet (fail)
  go_wp2
  exact bodyPost_ret (v := .agg #[.int .i64 t.k, .string t.s, .int .i64 t.n, .int .i64 t.p]) (by simp [results, Tryz.results135, go_sem, hc]) rfl ⟨rfl, ((((H2.out.below (bdr _ _ _)).far hBs _).far hBs _).far hBs _).far hBs _, zba (set4 (HB.out.trans (bdr _ _ _)) _ _ _ _)⟩
 | cons t' r =>
  have HL := jj hl
  clear h hl
  go_enter Tryz.func135, Tryz.ntmps135
  go_wp2_with (go_at_call 32; refine HP.out.mono ?_; rintro e w1 ⟨rfl, hb1⟩; have H2 := jj ((H1.out.below hb1).alloc (.cells #[.int .i64 t.k, .string t.s, .int .i64 t.n, .int .i64 t.p] 63)); have HB := jj (HB1.out.trans ((hb1.alloc hb1.size (.cells #[.int .i64 t.k, .string t.s, .int .i64 t.n, .int .i64 t.p] 63)).mono (by simp))); obtain ⟨g, o, c, m, k, c0, c1, c2, hk, hm, hg, _, hfz, _⟩ := H2.out.some HL.out; have hd : decide ((k : Int) < (m : Int)) = true := (by simpa using hk); have hb := hb1.alloc hb1.size (.cells #[.int .i64 t.k, .string t.s, .int .i64 t.n, .int .i64 t.p] 63); obtain ⟨hc, hf⟩ := L.bcell hb; have HC1 := jj c1; have hz1 : w.heap.size < w1.heap.size := (lltl (by simp) hb1.size); obtain ⟨k1, j1⟩ := oth1 (w1.alloc (.cells #[.int .i64 t.k, .string t.s, .int .i64 t.n, .int .i64 t.p] 63)) rb 1 (.int .i64 ((k : Int) + 1)) w1.heap.size (by omega); obtain ⟨k2, j2⟩ := oth1 (w1.alloc (.cells #[.int .i64 t.k, .string t.s, .int .i64 t.n, .int .i64 t.p] 63)) rb 1 (.int .i64 ((k : Int) + 1)) w.heap.size (by omega); clear hb hb1)
  go_quiet (fail)
  go_wp2
  exact bodyPost_ret (v := .agg #[.int .i64 t.k, .string t.s, .int .i64 t.n, .int .i64 t.p]) (by simp [results, Tryz.results135, go_sem, hc, k2]) rfl ⟨rfl, ((((H2.out.below (bdr _ _ nq)).step HL.out (k := k) HC1.out).far hBs _).far hBs _).far hBs _ |>.far hBs _, fr4 ((zba (HB.out.trans (bdr _ _ nq))).set _ (.inl (.inr rfl))) _ _ _ _⟩
def RS.tk (s : RS) (k : Int) (x : List UInt8) : RS := if s.is k x = true then s.nx else s
theorem zuq {k : Int} {x : List UInt8} (h : s.is k x = true) : ∃ t r, s.l = t :: r := by
 unfold RS.is at h; exact za7 h
theorem zox (h : Qs B pb rb w s) (k : Int) (x : ByteArray) (hk : k ≠ 0) (hk4 : k ≠ 4) : Calls Tryz.prog 134 #[.pointer (some ⟨rb, 0, none⟩), .int .i64 k, .string x] w (BP B pb rb w (s.is k x.toList) (s.tk k x.toList)) := by
 have HI := jj (is_b h k x hk hk4)
 have H := jj h
 unfold RS.tk BP
 cases hx : s.is k x.toList with
 | false =>
  rw [hx] at HI
  rw [if_neg (by decide)]
  clear h
  go_enter Tryz.func134, Tryz.ntmps134
  go_wp2_with (go_at_call 162; refine HI.out.mono ?_; rintro e w1 ⟨rfl, hb1⟩; have HB := jj hb1; clear hb1)
  go_ret
  exact ⟨rfl, H.out.below HB.out, zba HB.out⟩
 | true =>
  rw [hx] at HI
  rw [if_pos rfl]
  obtain ⟨t, r, hl⟩ := zuq hx
  have HL := jj hl
  clear h
  go_enter Tryz.func134, Tryz.ntmps134
  go_wp2_with (go_at_call 162; refine HI.out.mono ?_; rintro e w1 ⟨rfl, hb1⟩; have H2 := jj (H.out.below hb1); obtain ⟨g, o, c, m, k, c0, c1, c2, hk, hm, hg, _, hfz, _⟩ := H2.out.some HL.out; have HC1 := jj c1; have HB := jj hb1; clear hb1)
  go_ret
  exact ⟨rfl, H2.out.step HL.out (k := k) HC1.out, (zba HB.out).set _ (.inl (.inr rfl))⟩
theorem zfn (h : Qs B pb rb w s) (e p : Int) : Calls Tryz.prog 31 #[.pointer (some ⟨pb, 0, none⟩), .int .i64 e, .int .i64 p] w (VP B pb rb w (s.fail e p)) := by
 obtain ⟨c0, c1, c2, c3, cf⟩ := h.pcells
 have f1 := cf 1
 have f2 := cf 2
 have H := jj h
 clear h cf
 unfold VP
 by_cases he : s.err = 0
 ·have e1 : s.fail e p = { s with err := e, pos := p } := by unfold RS.fail; simp [he]
  rw [e1]
  rw [he] at c1
  clear he
  go_enter Tryz.func31, Tryz.ntmps31
  go_wp2
  go_end0
  exact ⟨rfl, H.out.fail_ _ _, ((Fr.refl _ _).set _ (.inl (.inl rfl))).set _ (.inl (.inl rfl))⟩
 ·have e1 : s.fail e p = s := by unfold RS.fail; simp [he]
  have hz : (s.err == 0) = false := by simpa using he
  rw [e1]
  go_enter Tryz.func31, Tryz.ntmps31
  go_wp2
  go_end0
  exact ⟨rfl, H.out, Fr.refl _ _⟩
end
open T Go.RowKit
open A (Fr)
attribute [local go_sem] A.zat A.zau A.zas
section
variable {B pb rb : Nat} {w w' W : World} {s s' : RS}
theorem zaw (h : s.err = 0) (k : Int) (x : List UInt8) : s.go k x = s.tk k x /\ s.on k x = s.is k x := by
 unfold RS.go RS.on RS.tk; simp [h]
theorem zlj (h : s.err ≠ 0) (k : Int) (x : List UInt8) : s.go k x = s /\ s.on k x = false := by
 unfold RS.go RS.on; simp [h]
theorem z0i (h : Qs B pb rb w s) (x : ByteArray) : Calls Tryz.prog 95 #[.pointer (some ⟨pb, 0, none⟩), .string x] w (BP B pb rb w (s.on 1 x.toList) (s.go 1 x.toList)) := by
 obtain ⟨c0, c1, c2, c3, cf⟩ := h.pcells
 have H := jj h
 by_cases he : s.err = 0
 ·have HT := jj (zox h 1 x (by decide) (by decide))
  have hz : (s.err == 0) = true := by simpa using he
  rw [(zaw he 1 x.toList).1, (zaw he 1 x.toList).2]
  unfold BP at HT ⊢
  obtain ⟨y, hy⟩ : ∃ y, s.is 1 x.toList = y := ⟨_, rfl⟩
  rw [hy] at HT ⊢
  clear h cf he hy
  go_enter Tryz.func95, Tryz.ntmps95
  go_wp2_with (go_at_call 134; refine HT.out.mono ?_; rintro e w1 ⟨rfl, h1, k1⟩; have H1 := jj h1; have K1 := jj k1; clear h1 k1)
  go_ret
  exact ⟨rfl, H1.out, K1.out⟩
 ·have hz : (s.err == 0) = false := by simpa using he
  rw [(zlj he 1 x.toList).1, (zlj he 1 x.toList).2]
  clear h cf he
  go_enter Tryz.func95, Tryz.ntmps95
  go_wp2
  go_ret
  exact ⟨rfl, H.out, Fr.refl _ _⟩
theorem z0a (h : Qs B pb rb w s) (x : ByteArray) : Calls Tryz.prog 100 #[.pointer (some ⟨pb, 0, none⟩), .string x] w (BP B pb rb w (s.on 7 x.toList) (s.go 7 x.toList)) := by
 obtain ⟨c0, c1, c2, c3, cf⟩ := h.pcells
 have H := jj h
 by_cases he : s.err = 0
 ·have HT := jj (zox h 7 x (by decide) (by decide))
  have hz : (s.err == 0) = true := by simpa using he
  rw [(zaw he 7 x.toList).1, (zaw he 7 x.toList).2]
  unfold BP at HT ⊢
  obtain ⟨y, hy⟩ : ∃ y, s.is 7 x.toList = y := ⟨_, rfl⟩
  rw [hy] at HT ⊢
  clear h cf he hy
  go_enter Tryz.func100, Tryz.ntmps100
  go_wp2_with (go_at_call 134; refine HT.out.mono ?_; rintro e w1 ⟨rfl, h1, k1⟩; have H1 := jj h1; have K1 := jj k1; clear h1 k1)
  go_ret
  exact ⟨rfl, H1.out, K1.out⟩
 ·have hz : (s.err == 0) = false := by simpa using he
  rw [(zlj he 7 x.toList).1, (zlj he 7 x.toList).2]
  clear h cf he
  go_enter Tryz.func100, Tryz.ntmps100
  go_wp2
  go_ret
  exact ⟨rfl, H.out, Fr.refl _ _⟩
theorem zai {w0 : World} {k : Nat} {cs : Array Value} {t : TypeId} (h : Fr (SS pb rb) w w') (h0 : Qs B pb rb w0 s) (hk : w.heap[k]? = some (.cells cs t (0, 0))) (hB : B <= k) : w'.heap[k]? = some (.cells cs t (0, 0)) :=
 (h.block k (age.1 hk).1 fun hh => by
  have := h0.hpb; have := h0.hrb
  rcases hh with rfl | rfl <;> omega).trans hk
theorem z0s (h : Qs B pb rb w s) (k : Int) (x : ByteArray) (hk : k ≠ 0) (hk4 : k ≠ 4) : Calls Tryz.prog 97 #[.pointer (some ⟨pb, 0, none⟩), .int .i64 k, .string x] w (VP B pb rb w (s.must k x.toList)) := by
 obtain ⟨c0, c1, c2, c3, cf⟩ := h.pcells
 have H := jj h
 unfold VP
 by_cases he : s.err = 0
 ·have HT := jj (zox h k x hk hk4)
  have hz : (s.err == 0) = true := by simpa using he
  unfold BP at HT
  cases hx : s.is k x.toList with
  | false =>
   have e1 : s.must k x.toList = s.fail 5 s.pk.p := by unfold RS.must; simp [he, hx]
   have e2 : s.tk k x.toList = s := by unfold RS.tk; simp [hx]
   rw [hx, e2] at HT
   rw [e1]
   clear h cf hx e1 e2 he
   go_enter Tryz.func97, Tryz.ntmps97
   go_wp2_with (first | (go_at_call 134; refine HT.out.mono ?_; rintro e w1 ⟨rfl, h1, k1⟩; obtain ⟨d0, d1, d2, d3, df⟩ := h1.pcells; have H1 := jj h1; have K1 := jj k1; clear h1 k1 df) | (go_at_call 32; refine (za1 H1.out).mono ?_; rintro e w2 ⟨rfl, hb2⟩; have H2 := jj (H1.out.below hb2); have K2 := jj (K1.out.trans (zba hb2)); clear hb2) | (go_at_call 31; refine (zfn H2.out 5 s.pk.p).mono ?_; rintro e w3 ⟨rfl, h3, k3⟩; have H3 := jj h3; have K3 := jj (K2.out.trans k3); clear h3 k3))
   go_end0
   exact ⟨rfl, H3.out, K3.out⟩
  | true =>
   have e1 : s.must k x.toList = s.tk k x.toList := by unfold RS.must RS.tk; simp [he, hx]
   rw [hx] at HT
   rw [e1]
   clear h cf hx e1 he
   go_enter Tryz.func97, Tryz.ntmps97
   go_wp2_with (go_at_call 134; refine HT.out.mono ?_; rintro e w1 ⟨rfl, h1, k1⟩; have H1 := jj h1; have K1 := jj k1; clear h1 k1)
   go_end0
   exact ⟨rfl, H1.out, K1.out⟩
 ·have e1 : s.must k x.toList = s := by unfold RS.must; simp [he]
  have hz : (s.err == 0) = false := by simpa using he
  rw [e1]
  clear h cf he e1
  go_enter Tryz.func97, Tryz.ntmps97
  go_wp2
  go_end0
  exact ⟨rfl, H.out, Fr.refl _ _⟩
theorem zfs (h : Qs B pb rb w s) (k : Int) : Calls Tryz.prog 96 #[.pointer (some ⟨pb, 0, none⟩), .int .i64 k] w (XP B pb rb w (s.off k).1 (s.off k).2) := by
 obtain ⟨c0, c1, c2, c3, cf⟩ := h.pcells
 have HP := jj (za1 h)
 have H := jj h
 obtain ⟨t, ht⟩ : ∃ t, s.pk = t := ⟨_, rfl⟩
 rw [ht] at HP
 unfold XP
 by_cases he : s.err = 0
 ·have hz : (s.err != 0) = false := by simpa using he
  by_cases hk : t.k = k
  ·have e1 : s.off k = (t.s, s.nx) := by unfold RS.off; simp [he, ht, hk]
   have hq : (t.k != k) = false := by simpa using hk
   rw [e1]
   have HN : Hid (∀ W, Qs B pb rb W s -> Calls Tryz.prog 135 #[.pointer (some ⟨rb, 0, none⟩)] W fun e w' => e = .returned (.agg #[.int .i64 t.k, .string t.s, .int .i64 t.n, .int .i64 t.p]) /\ Qs B pb rb w' s.nx /\ Fr (SS pb rb) W w') := jj fun W h => by rw [<- ht]; exact zjk h
   clear h cf he hk e1 ht
   go_enter Tryz.func96, Tryz.ntmps96
   go_wp2_with (first | (go_at_call 32; refine HP.out.mono ?_; rintro e w1 ⟨rfl, hb1⟩; have h1 := (H.out.below hb1).alloc (.cells #[.int .i64 t.k, .string t.s, .int .i64 t.n, .int .i64 t.p] 63); obtain ⟨d0, d1, d2, d3, df⟩ := h1.pcells; have H1 := jj h1; have B1 := jj (hb1.alloc hb1.size (.cells #[.int .i64 t.k, .string t.s, .int .i64 t.n, .int .i64 t.p] 63)); have hsz := ltr H.out.hB hb1.size; clear h1 hb1 df) | (go_at_call 135; refine (HN.out _ H1.out).mono ?_; rintro e w2 ⟨rfl, h2, k2⟩; have g1 := (zaa (zai k2 H1.out (anw w1 (.cells #[.int .i64 t.k, .string t.s, .int .i64 t.n, .int .i64 t.p] 63)) hsz) 1); have H2 := jj h2; have K2 := jj ((zba B1.out).trans k2); clear h2 k2))
   go_ret
   exact ⟨rfl, H2.out, K2.out⟩
  ·have e1 : s.off k = (⟨#[]⟩, s.fail 5 t.p) := by unfold RS.off; simp [he, ht, hk]
   have hq : (t.k != k) = true := by simpa using hk
   rw [e1]
   clear h cf he hk e1 ht
   go_enter Tryz.func96, Tryz.ntmps96
   go_wp2_with (first | (go_at_call 32; refine HP.out.mono ?_; rintro e w1 ⟨rfl, hb1⟩; have h1 := (H.out.below hb1).alloc (.cells #[.int .i64 t.k, .string t.s, .int .i64 t.n, .int .i64 t.p] 63); obtain ⟨d0, d1, d2, d3, df⟩ := h1.pcells; have H1 := jj h1; have B1 := jj (hb1.alloc hb1.size (.cells #[.int .i64 t.k, .string t.s, .int .i64 t.n, .int .i64 t.p] 63)); clear h1 hb1 df) | (go_at_call 31; refine (zfn H1.out 5 t.p).mono ?_; rintro e w3 ⟨rfl, h3, k3⟩; have H3 := jj h3; have K3 := jj ((zba B1.out).trans k3); clear h3 k3))
   go_ret
   exact ⟨rfl, H3.out, K3.out⟩
 ·have e1 : s.off k = (⟨#[]⟩, s) := by unfold RS.off; simp [he]
  have hz : (s.err != 0) = true := by simpa using he
  rw [e1]
  clear h cf he e1 ht
  go_enter Tryz.func96, Tryz.ntmps96
  go_wp2_with (go_at_call 32; refine HP.out.mono ?_; rintro e w1 ⟨rfl, hb1⟩; have h1 := (H.out.below hb1).alloc (.cells #[.int .i64 t.k, .string t.s, .int .i64 t.n, .int .i64 t.p] 63); obtain ⟨d0, d1, d2, d3, df⟩ := h1.pcells; have H1 := jj h1; have B1 := jj (hb1.alloc hb1.size (.cells #[.int .i64 t.k, .string t.s, .int .i64 t.n, .int .i64 t.p] 63)); clear h1 hb1 df)
  go_ret
  exact ⟨rfl, H1.out, zba B1.out⟩
theorem zd3 (w : World) : Calls Tryz.prog 57 #[] w (NPost nil1 w) := by
 go_enter Tryz.func57, Tryz.ntmps57
 go_wp2
 refine bodyPost_ret (v := .agg #[.slice (some ⟨w.heap.size + 1, 0, none⟩) 1 1]) (by simp [results, Tryz.results57, go_sem]) rfl ⟨_, _, [(mk 1 0, .slice none 0 0)], rfl, rfl, ⟨⟨rfl, .inr ⟨w.heap.size + 1, 1, _, rfl, by omega, newAt (by simp), by decide, by decide, rfl, rfl⟩⟩, fun x hx => ?_⟩, (baw w _).alloc (by simp) _⟩
 rw [List.mem_singleton] at hx
 subst hx
 exact World.ownsRow_nil _ _ _ _
end
open T Go.RowKit
open A (Fr)
theorem zt9 : ∀ (l : List Nat) (n : Nat), n ∈ l -> n <= l.sum
 | a :: l, n, h => by
  rw [List.sum_cons]
  rcases List.mem_cons.1 h with rfl | h
  ·omega
  ·have := zt9 l n h; omega
theorem zvt (x : Nd) : (kids x).length <= 3 + x.l.length := by
 unfold kids kids0
 rw [List.length_append]
 have h1 : (if many x = true then x.l.map Fld.pl else []).length <= x.l.length := by split <;> simp
 have h2 : (if x.kind = 5 ∨ x.kind = 12 ∨ x.kind = 13 ∨ x.kind = 14 then [x.a] else if x.kind = 6 ∨ x.kind = 7 ∨ x.kind = 8 ∨ x.kind = 10 then [x.a, x.b] else if x.kind = 9 then [x.a, x.b, x.c] else []).length <= 3 := by
  split
  ·simp
  ·split
   ·simp
   ·split <;> simp
 omega
theorem zpt {x : Nd} {ll : List (List Nd)} (h : JOk x ll) : ∀ q, (jn (ll.take q)).1.length <= 90000 := fun q => by
 rw [(zf5 _).1]
 have h1 : ((ll.take q).map List.length).sum <= (ll.map List.length).sum := by
  conv => rhs; rw [<- List.take_append_drop q ll]
  rw [List.map_append, List.sum_append]; omega
 have := h.2.2.2; omega
theorem zxw {x : Nd} {ll : List (List Nd)} (h : JOk x ll) : ∀ e ∈ ll, e.length <= 90000 := fun e he => by
 have : e.length <= (ll.map List.length).sum := zt9 _ _ (List.mem_map_of_mem he)
 have := h.2.2.2; omega
section
variable {B pb rb : Nat} {w w' W : World} {s s' : RS}
theorem res98 (tmps : Array Value) (W : World) (p : Nat) (A : Option Addr) (n c : Nat) (h2 : tmps[4]?.getD undef = .pointer (some ⟨p, 0, none⟩)) (hb : W.cell? ⟨p, 0, none⟩ = some (.slice A n c)) :
  Sem.run Tryz.prog (results Tryz.f98 tmps) W = .ok (.agg #[.slice A n c]) W := by
 simp [results, Tryz.results98, go_sem, h2, hb]
theorem NPost.set {N : List Nd} {w W : World} {k j : Nat} {A : Option Addr} {c : Nat} {ps : List (Nd × Value)} {W0 : World} (h2 : ps.map Prod.fst = N) (h3 : OwnN W0.heap.size W (.slice A N.length c) ps) (hb : Below w.heap.size w W) (h0 : w.heap.size <= k) (h1 : k < W0.heap.size) (u : Value) :
  OwnN w.heap.size (W.setCell ⟨k, j, none⟩ u) (.slice A N.length c) ps /\ Below w.heap.size w (W.setCell ⟨k, j, none⟩ u) := by
 have ht : Tr W0.heap.size W (.slice A N.length c) N := ⟨ps, h2, h3⟩
 refine ⟨⟨⟨h3.1.1, ?_⟩, fun x hx => ⟨(h3.2 x hx).1, ?_⟩⟩, hb.setCell (p := ⟨k, j, none⟩) h0 _⟩
 ·rcases h3.1.2 with e0 | ⟨g, cap, cur, e1, e2, e3, e4⟩
  ·exact .inl e0
  ·exact .inr ⟨g, cap, cur, e1, by omega, (zaf _ _ _ _ _ (by omega)).trans e3, e4⟩
 ·rcases (h3.2 x hx).2 with e0 | ⟨g, cap, cur, e1, e2, e3, e4⟩
  ·exact .inl e0
  ·exact .inr ⟨g, cap, cur, e1, by omega, (zaf _ _ _ _ _ (by omega)).trans e3, e4⟩
theorem zqi (x : Nd) (ll : List (List Nd)) (FX EA : Option Addr) (fx cl LL : Nat) (w : World) (hF : Flds w.heap.size w (.slice FX x.l.length fx) x.l) (hJ : JOk x ll) (hL : ll.length = LL)
  (HE : 0 < LL -> ∃ be, EA = some (⟨be, 0, none⟩ : Addr) /\ be < w.heap.size /\ ∀ j e, ll[j]? = some e -> ∃ Ae ce, w.cell? ⟨be, j, none⟩ = some (.slice Ae e.length ce) /\ Nodes w.heap.size w (.slice Ae e.length ce) e) :
  Calls Tryz.prog 98 #[.agg (ndArr x (.slice FX x.l.length fx)), .slice EA LL cl] w (NPost (joinN x ll) w) := by
 have hB0 : Below w.heap.size w ((w.alloc (.cells (ndArr x (.slice FX x.l.length fx)) 37)).alloc (.cells #[.slice none 0 0] 25)) := (baw w _).alloc (by simp) _
 have HR := jj (zpy x ll FX EA fx cl LL ((w.alloc (.cells (ndArr x (.slice FX x.l.length fx)) 37)).alloc (.cells #[.slice none 0 0] 25)) ((hF.below hB0).mono hB0.size) (by have := hJ.2.1; omega) (jj hL)
  (by rw [<- hL, hJ.1]; have h1 : (kids x).length <= 3 + x.l.length := zvt x; have := hJ.2.1; omega)
  (jj fun h => by
   obtain ⟨be, e1, e2, e3⟩ := HE h
   refine ⟨be, 0, e1, lltl e2 hB0.size, fun j e hj => ?_⟩
   obtain ⟨Ae, ce, a1, a2⟩ := e3 j e hj
   rw [Nat.zero_add]
   exact ⟨Ae, ce, (hB0.cell (p := ⟨be, j, none⟩) e2).trans a1, (a2.below hB0).mono hB0.size⟩)
  (jj fun e he m hm => by have := (hJ.2.2.1 e he).2 m hm; omega)
  (jj fun e he m hm k hk => by
   obtain ⟨i, hi⟩ := List.getElem?_of_mem hm
   have h1 := (hJ.2.2.1 e he).1.2.1 i m hi k hk
   have h2 := zxw hJ e he
   have h3 := (lge.1 hi).1
   omega)
  (jj fun q _ => by have := zpt hJ q; omega)
  (jj fun q e hq => by
   have h1 := zpt hJ (q + 1)
   rw [List.take_add_one, hq] at h1
   rw [(zf5 _).1] at h1 ⊢
   rw [List.map_append, List.sum_append, show (Option.some e).toList = [e] from rfl, List.map_cons, List.map_nil, List.sum_cons, List.sum_nil] at h1
   omega)
  (jj (hJ.1.symm.trans hL)))
 have HB0 := jj hB0
 obtain ⟨k, a, b, c, n, nm, sx, l, pos⟩ := x
 simp only [ndArr] at HR HB0 ⊢
 clear hB0 hF hJ hL HE
 go_enter Tryz.func98, Tryz.ntmps98
 go_wp2_with (go_at_call 136; refine HR.out.mono ?_; rintro e w1 ⟨A, cc, ps, rfl, h2, h3, hb⟩; obtain ⟨hc, hf⟩ := L.bcell hb; have H2 := jj h2; have H3 := jj h3; have HB := jj hb; clear h2 h3 hb)
 obtain ⟨o1, o2⟩ := NPost.set (j := 0) H2.out H3.out (HB0.out.trans (HB.out.mono (by simp; omega))) (k := w.heap.size + 1) (by omega) (by simp) (.slice A (joinN ⟨k, a, b, c, n, nm, sx, l, pos⟩ ll).length cc)
 exact bodyPost_ret (res98 _ _ (w.heap.size + 1) A _ cc rfl (by go_simp)) rfl ⟨A, cc, ps, rfl, H2.out, o1, o2⟩
end
open T Go.RowKit
open A (Fr)
section
variable {w W : World} {s s' : RS} {x : Nd} {t t1 t2 t3 : List Nd}
theorem zam {ll : List (List Nd)} (h : joinO x ll s = some (t, s')) : JOk x ll /\ t = joinN x ll /\ s' = s := by
 unfold joinO at h
 split at h
 ·rename_i hj; cases h; exact ⟨hj, rfl, rfl⟩
 ·cases h
def Lies (W : World) (bk : Nat) (vs : List Value) (ll : List (List Nd)) : Prop := bk < W.heap.size /\ ll.length = vs.length /\ (∀ (j : Nat) v, vs[j]? = some v -> W.cell? ⟨bk, j, none⟩ = some v) /\ ∀ (j : Nat) v e, vs[j]? = some v -> ll[j]? = some e -> ∃ A c, v = .slice A e.length c /\ Nodes W.heap.size W v e
theorem zgi (hx : x.l = []) {ll : List (List Nd)} {vs : List Value} {bk n cl : Nat} (hn : vs.length = n) (hl : Lies W bk vs ll) (hJ : JOk x ll) : Calls Tryz.prog 98 #[.agg (ndArr x (.slice none 0 0)), .slice (some ⟨bk, 0, none⟩) n cl] W (NPost (joinN x ll) W) := by
 obtain ⟨h1, h2, h3, h4⟩ := hl
 have := zqi x ll none (some ⟨bk, 0, none⟩) 0 cl n W ⟨none, 0, rfl, by rw [hx]; decide, fun _ => rfl, fun h => by rw [hx] at h; simp at h⟩ hJ (h2.trans hn) (fun _ => ⟨bk, rfl, h1, fun j e hj => by
  have hlt := (lge.1 hj).1
  obtain ⟨v, hv⟩ : ∃ v, vs[j]? = some v := ⟨_, List.getElem?_eq_getElem (by omega)⟩
  obtain ⟨A, c, rfl, hN⟩ := h4 j v e hv hj
  exact ⟨A, c, h3 j _ hv, hN⟩⟩)
 rw [hx] at this
 exact this
theorem zfi (hx : x.l = []) (hJ : JOk x []) (w : World) : Calls Tryz.prog 98 #[.agg (ndArr x (.slice none 0 0)), .slice none 0 0] w (NPost (joinN x []) w) := by
 have := zqi x [] none none 0 0 0 w ⟨none, 0, rfl, by rw [hx]; decide, fun _ => rfl, fun h => by rw [hx] at h; simp at h⟩ hJ rfl (fun h => by simp at h)
 rw [hx] at this; exact this
theorem lies1 {bk c1 : Nat} {A1 : Option Addr} (h : W.heap[bk]? = some (.cells #[.slice A1 t1.length c1] 25 (0, 0))) (h1 : Nodes W.heap.size W (.slice A1 t1.length c1) t1) : Lies W bk [.slice A1 t1.length c1] [t1] := by
 refine ⟨(age.1 h).1, rfl, fun j v hj => ?_, fun j v e hj he => ?_⟩
 ·exact (zaa h j).trans (by rw [List.getElem?_toArray]; exact hj)
 ·cases j with
  | zero => simp at hj he; subst hj he; exact ⟨A1, c1, rfl, h1⟩
  | succ j => simp at hj
theorem lies2 {bk c1 c2 : Nat} {A1 A2 : Option Addr} (h : W.heap[bk]? = some (.cells #[.slice A1 t1.length c1, .slice A2 t2.length c2] 25 (0, 0))) (h1 : Nodes W.heap.size W (.slice A1 t1.length c1) t1) (h2 : Nodes W.heap.size W (.slice A2 t2.length c2) t2) : Lies W bk [.slice A1 t1.length c1, .slice A2 t2.length c2] [t1, t2] := by
 refine ⟨(age.1 h).1, rfl, fun j v hj => ?_, fun j v e hj he => ?_⟩
 ·exact (zaa h j).trans (by rw [List.getElem?_toArray]; exact hj)
 ·match j with
  | 0 => simp at hj he; subst hj he; exact ⟨A1, c1, rfl, h1⟩
  | 1 => simp at hj he; subst hj he; exact ⟨A2, c2, rfl, h2⟩
  | j + 2 => simp at hj
theorem lies3 {bk c1 c2 c3 : Nat} {A1 A2 A3 : Option Addr} (h : W.heap[bk]? = some (.cells #[.slice A1 t1.length c1, .slice A2 t2.length c2, .slice A3 t3.length c3] 25 (0, 0))) (h1 : Nodes W.heap.size W (.slice A1 t1.length c1) t1) (h2 : Nodes W.heap.size W (.slice A2 t2.length c2) t2) (h3 : Nodes W.heap.size W (.slice A3 t3.length c3) t3) : Lies W bk [.slice A1 t1.length c1, .slice A2 t2.length c2, .slice A3 t3.length c3] [t1, t2, t3] := by
 refine ⟨(age.1 h).1, rfl, fun j v hj => ?_, fun j v e hj he => ?_⟩
 ·exact (zaa h j).trans (by rw [List.getElem?_toArray]; exact hj)
 ·match j with
  | 0 => simp at hj he; subst hj he; exact ⟨A1, c1, rfl, h1⟩
  | 1 => simp at hj he; subst hj he; exact ⟨A2, c2, rfl, h2⟩
  | 2 => simp at hj he; subst hj he; exact ⟨A3, c3, rfl, h3⟩
  | j + 3 => simp at hj
theorem zcd {v : Value} (h : Nodes W.heap.size W v t) (o : Obj) : Nodes (W.alloc o).heap.size (W.alloc o) v t := (h.below (baw W o)).mono (baw W o).size
theorem zh3 (hx : x.l = []) (hJ : JOk x [t1]) {A1 : Option Addr} {c1 : Nat} (h1 : Nodes W.heap.size W (.slice A1 t1.length c1) t1) : Calls Tryz.prog 98 #[.agg (ndArr x (.slice none 0 0)), .slice (some ⟨W.heap.size, 0, none⟩) 1 1] (W.alloc (.cells #[.slice A1 t1.length c1] 25)) (NPost (joinN x [t1]) (W.alloc (.cells #[.slice A1 t1.length c1] 25))) :=
 zgi hx rfl (lies1 (anw W _) (zcd h1 _)) hJ
theorem zb2 (hx : x.l = []) (hJ : JOk x [t1, t2]) {A1 A2 : Option Addr} {c1 c2 : Nat} (h1 : Nodes W.heap.size W (.slice A1 t1.length c1) t1) (h2 : Nodes W.heap.size W (.slice A2 t2.length c2) t2) : Calls Tryz.prog 98 #[.agg (ndArr x (.slice none 0 0)), .slice (some ⟨W.heap.size, 0, none⟩) 2 2] (W.alloc (.cells #[.slice A1 t1.length c1, .slice A2 t2.length c2] 25)) (NPost (joinN x [t1, t2]) (W.alloc (.cells #[.slice A1 t1.length c1, .slice A2 t2.length c2] 25))) :=
 zgi hx rfl (lies2 (anw W _) (zcd h1 _) (zcd h2 _)) hJ
theorem zs6 (hx : x.l = []) (hJ : JOk x [t1, t2, t3]) {A1 A2 A3 : Option Addr} {c1 c2 c3 : Nat} (h1 : Nodes W.heap.size W (.slice A1 t1.length c1) t1) (h2 : Nodes W.heap.size W (.slice A2 t2.length c2) t2) (h3 : Nodes W.heap.size W (.slice A3 t3.length c3) t3) : Calls Tryz.prog 98 #[.agg (ndArr x (.slice none 0 0)), .slice (some ⟨W.heap.size, 0, none⟩) 3 3] (W.alloc (.cells #[.slice A1 t1.length c1, .slice A2 t2.length c2, .slice A3 t3.length c3] 25)) (NPost (joinN x [t1, t2, t3]) (W.alloc (.cells #[.slice A1 t1.length c1, .slice A2 t2.length c2, .slice A3 t3.length c3] 25))) :=
 zgi hx rfl (lies3 (anw W _) (zcd h1 _) (zcd h2 _) (zcd h3 _)) hJ
end
theorem zab (a : Array UInt8) : (ByteArray.mk a).toList = a.toList := by simp [ByteArray.toList_eq]
section
variable {B pb rb : Nat} {w : World} {s : RS} {x : ByteArray} {l : List UInt8}
theorem za8 (h : Qs B pb rb w s) (hx : x.toList = l) : Calls Tryz.prog 100 #[.pointer (some ⟨pb, 0, none⟩), .string x] w (BP B pb rb w (s.on 7 l) (s.go 7 l)) := by subst hx; exact z0a h x
theorem za2 (h : Qs B pb rb w s) (hx : x.toList = l) : Calls Tryz.prog 95 #[.pointer (some ⟨pb, 0, none⟩), .string x] w (BP B pb rb w (s.on 1 l) (s.go 1 l)) := by subst hx; exact z0i h x
theorem zcb (h : Qs B pb rb w s) {k : Int} (hk : k ≠ 0) (hk4 : k ≠ 4) (hx : x.toList = l) : Calls Tryz.prog 97 #[.pointer (some ⟨pb, 0, none⟩), .int .i64 k, .string x] w (VP B pb rb w (s.must k l)) := by subst hx; exact z0s h k x hk hk4
end
def Rdz (B pb rb F : Nat) (X : RS -> Ans) : Prop := ∀ w s t s', Qs B pb rb w s -> X s = some (t, s') -> Calls Tryz.prog F #[.pointer (some ⟨pb, 0, none⟩)] w (TP B pb rb w t s')
theorem bind_some {α : Type} {o : Ans} {f : List Nd × RS -> Option α} {r : α} (h : o.bind f = some r) : ∃ a s, o = some (a, s) /\ f (a, s) = some r := by
 obtain ⟨⟨a, s⟩, h1, h2⟩ := Option.bind_eq_some_iff.1 h
 exact ⟨a, s, h1, h2⟩
open T Go.RowKit
open A (Fr)
section
variable {B pb rb : Nat} {w w' W : World} {s s' : RS}
theorem zt5 (x : ByteArray) (fs : List Fld) : M.inB x (fs.map Fld.nm) = fs.any fun y => y.nm.toList == x.toList := by
 unfold M.inB; rw [List.any_map]; rfl
theorem zla (h : Qs B pb rb w s) (t : Tk) (fs : List Fld) (FA : Option Addr) (fc n : Nat) (hn : fs.length = n) (hF : Flds w.heap.size w (.slice FA n fc) fs) (hL : n <= 1000) :
  Calls Tryz.prog 212 #[.pointer (some ⟨pb, 0, none⟩), .agg #[.int .i64 t.k, .string t.s, .int .i64 t.n, .int .i64 t.p], .slice FA n fc] w (VP B pb rb w (s.part t fs)) := by
 have hb0 : Below w.heap.size w (w.alloc (.cells #[.int .i64 t.k, .string t.s, .int .i64 t.n, .int .i64 t.p] 63)) := baw w _
 obtain ⟨c0, c1, c2, c3, cf⟩ := (h.alloc (.cells #[.int .i64 t.k, .string t.s, .int .i64 t.n, .int .i64 t.p] 63)).pcells
 have H := jj h
 have HB0 := jj hb0
 have HN := jj hn
 have hBs := h.hB
 unfold VP
 by_cases he : s.err = 0
 ·have hz : (s.err != 0) = false := by simpa using he
  have HFF : Hid (0 < n -> ∃ g o, FA = some ⟨g, o, none⟩ /\ g < w.heap.size /\ FldsAt w g o fs) := jj (by
   obtain ⟨A, c, e, _, _, h3⟩ := hF
   simp only [Value.slice.injEq] at e
   obtain ⟨rfl, e2, _⟩ := e
   rw [hn] at h3; exact h3)
  have HE := jj he
  clear h hb0 hF cf he hn
  obtain ⟨i0, hi, hz0, hz1, hz2⟩ := info_parts strInfo
  go_enter Tryz.func212, Tryz.ntmps212
  go_wp2
  go_loopw [6, 7] (fun v i wr => ∃ q g c' : Nat, v = .slice (some ⟨g, 0, none⟩) q c' /\ i = .int .i64 (q : Int) /\ q <= n /\ Hid (wr.ownsRow (w.heap.size + 1) 9 1 (.slice (some ⟨g, 0, none⟩) q c') q ((fs.take q).map (fun f => Value.string f.nm))) /\ Hid (Below (w.heap.size + 1) (w.alloc (.cells #[.int .i64 t.k, .string t.s, .int .i64 t.n, .int .i64 t.p] 63)) wr)) (fun _ i _ => n - (intOf i).toNat)
  case atStart => exact ⟨0, _, _, rfl, rfl, by omega, jj (by
   have := World.ownsRow_made (base := w.heap.size + 1) (e := 9) (size := 1) (w.alloc (.cells #[.int .i64 t.k, .string t.s, .int .i64 t.n, .int .i64 t.p] 63)) #[] 0 (by simp) (by decide) rfl
   rw [World.size_alloc] at this; rw [List.take_zero]; exact this), jj ((br _ _).alloc (by simp) _)⟩
  case round =>
   obtain ⟨q, g, c', rfl, rfl, hq, HI, HB⟩ := hrel
   have hsz := HB.out.size
   rw [World.size_alloc] at hsz
   by_cases hlt : q < n
   ·obtain ⟨fd, hfd⟩ : ∃ fd, fs[q]? = some fd := ⟨_, List.getElem?_eq_getElem (by rw [HN.out]; exact hlt)⟩
    obtain ⟨fb, fo, rfl, hfb, hf0⟩ := HFF.out (by omega)
    obtain ⟨m0, m1, m2⟩ := hf0 q fd hfd
    have e3 : ∀ k, wr.cell? ⟨fb, k, none⟩ = w.cell? ⟨fb, k, none⟩ := fun k => by
     rw [HB.out.cell (p := ⟨fb, _, none⟩) (by show fb < w.heap.size + 1; omega), ((br w.heap.size w).alloc (lrf _) _).cell (p := ⟨fb, _, none⟩) hfb]
    rw [<- e3] at m0 m1 m2
    have HX := jj hfd
    have hsz2 : fb < wr.heap.size := by omega
    clear e3 hfd hf0
    go_wp2_with (at_builtin; refine wpList_append_own _ rfl _ _ 73 rfl (w.heap.size + 1) 9 i0 (.string ⟨#[]⟩) 1 16 Tryz.underlying73 hi hz0 hz1 hz2 rfl (by decide) _ _ _ rfl (HI.out.alloc _) ⟨_, 0, none⟩ 1 1 [.string fd.nm] rfl rfl (new1s wr 9 _ _ (by rfl)) (fun u hu => by rw [List.mem_singleton.1 hu]; rfl) (by unfold maxLen; omega) (by omega) (by simp; omega) ?_; intro v' w2 hown' hgrow _; obtain ⟨g', cap', rfl⟩ := ownsRow_succ hown'; have HO := jj hown'; have HG := jj hgrow; clear hown' hgrow)
    go_roundw
    case rel =>
     refine ⟨q + 1, g', cap', rfl, by go_num, by omega, jj ?_, jj (HB.out.trans (((br _ wr).alloc (by omega) _).grown HG.out (by simp; omega) (fun k hk => (HI.out.lt k hk).1)))⟩
     rw [zgc fs q fd HX.out]; exact HO.out
    case measure => simp [intOf]; omega
   ·obtain rfl : q = n := by omega
    have hrow := HI.out
    rw [List.take_of_length_le (by have := HN.out; omega)] at hrow
    have HH := jj (zel hrow)
    have HBW : Hid (Below w.heap.size w wr) := jj (HB0.out.trans (HB.out.mono (by omega)))
    have t1 : wr.cell? ⟨w.heap.size, 1, none⟩ = some (.string t.s) := by
     rw [HB.out.cell (p := ⟨w.heap.size, 1, none⟩) (by simp)]; exact zaa (anw w _) 1
    have t3 : wr.cell? ⟨w.heap.size, 3, none⟩ = some (.int .i64 t.p) := by
     rw [HB.out.cell (p := ⟨w.heap.size, 3, none⟩) (by simp)]; exact zaa (anw w _) 3
    have H1 := jj (H.out.below HBW.out)
    clear hrow
    by_cases h30 : 30 <= q
    ·have e1 : s.part t fs = s.fail 8 t.p := by unfold RS.part; rw [if_pos HE.out, if_pos (by rw [HN.out]; exact h30)]
     have E1 := jj e1
     clear e1
     go_wp2_with (go_at_call 31; refine (zfn H1.out 8 t.p).mono ?_; rintro e w3 ⟨rfl, h3, k3⟩; have H3 := jj h3; have K3 := jj ((zba HBW.out).trans k3); clear h3 k3)
     go_end0
     exact ⟨rfl, by rw [E1.out]; exact H3.out, K3.out⟩
    ·cases hy : (fs.any fun y => y.nm.toList == t.s.toList) with
     | true =>
      have e1 : s.part t fs = s.fail 5 t.p := by unfold RS.part; rw [if_pos HE.out, if_neg (by rw [HN.out]; exact h30), if_pos hy]
      have E1 := jj e1
      have HIN : Hid (∀ c, Calls Tryz.prog 131 #[.string t.s, .slice (some ⟨g, 0, none⟩) q c] wr fun e w' => e = .returned (.bool true) /\ wr = w') := jj fun c => M.zrf (ss := fs.map Fld.nm) (by rw [List.take_of_length_le (by rw [List.length_map, HN.out]; omega), zt5, hy]) wr (by rw [List.length_map, HN.out]; omega) (by rw [List.length_map, HN.out]; omega) HH
      clear hy e1
      go_wp2_with (first | (go_at_call 131; refine (HIN.out _).mono ?_; rintro e w' ⟨rfl, rfl⟩) | (go_at_call 31; refine (zfn H1.out 5 t.p).mono ?_; rintro e w3 ⟨rfl, h3, k3⟩; have H3 := jj h3; have K3 := jj ((zba HBW.out).trans k3); clear h3 k3))
      go_end0
      exact ⟨rfl, by rw [E1.out]; exact H3.out, K3.out⟩
     | false =>
      have e1 : s.part t fs = s := by unfold RS.part; rw [if_pos HE.out, if_neg (by rw [HN.out]; exact h30), if_neg (by rw [hy]; decide)]
      have E1 := jj e1
      have HIN : Hid (∀ c, Calls Tryz.prog 131 #[.string t.s, .slice (some ⟨g, 0, none⟩) q c] wr fun e w' => e = .returned (.bool false) /\ wr = w') := jj fun c => M.zrf (ss := fs.map Fld.nm) (by rw [List.take_of_length_le (by rw [List.length_map, HN.out]; omega), zt5, hy]) wr (by rw [List.length_map, HN.out]; omega) (by rw [List.length_map, HN.out]; omega) HH
      clear hy e1
      go_wp2_with (go_at_call 131; refine (HIN.out _).mono ?_; rintro e w' ⟨rfl, rfl⟩)
      go_end0
      exact ⟨rfl, by rw [E1.out]; exact H1.out, zba HBW.out⟩
 ·have e1 : s.part t fs = s := by unfold RS.part; simp [he]
  have hz : (s.err != 0) = true := by simpa using he
  rw [e1]
  clear h hb0 hF cf he e1 hn
  go_enter Tryz.func212, Tryz.ntmps212
  go_wp2
  refine bodyPost_ret (v := .tuple #[]) (results_none rfl _ _ _) rfl ?_
  exact ⟨rfl, H.out.below HB0.out, zba HB0.out⟩
end
open T Go.RowKit
def begT (t : Tk) : Bool := decide (t.k = 4) || decide (t.k = 5) || decide (t.k = 2) || (decide (t.k = 1) && (t.s.toList == zar)) || (decide (t.k = 1) && (t.s.toList == zan)) || (decide (t.k = 1) && (t.s.toList == zbk)) || (decide (t.k = 7) && (t.s.toList == za3)) || (decide (t.k = 7) && (t.s.toList == zbb))
theorem zy2 (s : RS) : begins s.l = begT s.pk := by
 unfold RS.pk
 cases s.l with
 | nil => rfl
 | cons t r => rfl
section
variable {w : World}
theorem zux (s : ByteArray) (n p : Int) (k : Int) (hk : k = 4 ∨ k = 5 ∨ k = 2) (w : World) : Calls Tryz.prog 184 #[.agg #[.int .i64 k, .string s, .int .i64 n, .int .i64 p]] w fun e w' => e = .returned (.bool true) /\ Below w.heap.size w w' := by
 rcases hk with rfl | rfl | rfl
 all_goals
  go_enter Tryz.func184, Tryz.ntmps184
  go_wp2
  go_ret
  exact ⟨rfl, baw w _⟩
theorem zrj (s : ByteArray) (n p : Int) (w : World) : Calls Tryz.prog 184 #[.agg #[.int .i64 1, .string s, .int .i64 n, .int .i64 p]] w fun e w' => e = .returned (.bool ((s.toList == zar) || (s.toList == zan) || (s.toList == zbk))) /\ Below w.heap.size w w' := by
 cases h1 : (s.toList == zar) <;> cases h2 : (s.toList == zan) <;> cases h3 : (s.toList == zbk)
 all_goals
  unfold zar at h1
  unfold zan at h2
  unfold zbk at h3
  go_enter Tryz.func184, Tryz.ntmps184
  go_wp2
  go_ret
  exact ⟨rfl, baw w _⟩
theorem zth (s : ByteArray) (n p : Int) (w : World) : Calls Tryz.prog 184 #[.agg #[.int .i64 7, .string s, .int .i64 n, .int .i64 p]] w fun e w' => e = .returned (.bool ((s.toList == za3) || (s.toList == zbb))) /\ Below w.heap.size w w' := by
 cases h1 : (s.toList == za3) <;> cases h2 : (s.toList == zbb)
 all_goals
  unfold za3 at h1
  unfold zbb at h2
  go_enter Tryz.func184, Tryz.ntmps184
  go_wp2
  go_ret
  exact ⟨rfl, baw w _⟩
theorem zyu (s : ByteArray) (n p k : Int) (h1 : (k == 4) = false) (h2 : (k == 5) = false) (h3 : (k == 2) = false) (h4 : (k == 1) = false) (h5 : (k == 7) = false) (w : World) : Calls Tryz.prog 184 #[.agg #[.int .i64 k, .string s, .int .i64 n, .int .i64 p]] w fun e w' => e = .returned (.bool false) /\ Below w.heap.size w w' := by
 go_enter Tryz.func184, Tryz.ntmps184
 go_wp2
 go_ret
 exact ⟨rfl, baw w _⟩
theorem zk7 (t : Tk) (w : World) : Calls Tryz.prog 184 #[.agg #[.int .i64 t.k, .string t.s, .int .i64 t.n, .int .i64 t.p]] w fun e w' => e = .returned (.bool (begT t)) /\ Below w.heap.size w w' := by
 by_cases h1 : t.k = 4 ∨ t.k = 5 ∨ t.k = 2
 ·have e : begT t = true := by unfold begT; rcases h1 with h | h | h <;> simp [h]
  rw [e]; exact zux _ _ _ _ h1 w
 ·by_cases h4 : t.k = 1
  ·have e : begT t = ((t.s.toList == zar) || (t.s.toList == zan) || (t.s.toList == zbk)) := by unfold begT; simp [h4]
   rw [e, h4]; exact zrj _ _ _ w
  ·by_cases h5 : t.k = 7
   ·have e : begT t = ((t.s.toList == za3) || (t.s.toList == zbb)) := by unfold begT; simp [h5]
    rw [e, h5]; exact zth _ _ _ w
   ·have e : begT t = false := by
     unfold begT
     simp only [not_or] at h1
     simp [h1.1, h1.2.1, h1.2.2, h4, h5]
    simp only [not_or] at h1
    rw [e]
    exact zyu _ _ _ _ (by simpa using h1.1) (by simpa using h1.2.1) (by simpa using h1.2.2) (by simpa using h4) (by simpa using h5) w
end
end Go.Proofs.YtjakeidbajkdcaaGreatDoor.B
