/- Joined by program. -/
import Derived.Test.YtjakeidbajkdcaaGreatDoorG19
import Derived.Test.YtjakeidbajkdcaaGreatDoorG33
import Derived.Test.YtjakeidbajkdcaaGreatDoorG13
import Derived.Test.YtjakeidbajkdcaaGreatDoorG18
import Derived.RegionTactic
set_option maxRecDepth 100000
set_option maxHeartbeats 4000000
namespace Go.Proofs.YtjakeidbajkdcaaGreatDoor.A
open T Go.RowKit
def tkArr (t : Tk) : Array Value := #[.int .i64 t.k, .string t.s, .int .i64 t.n, .int .i64 t.p]
def TAt (w : World) (g o : Nat) (t : Tk) : Prop := w.cell? ⟨g, o, none⟩ = some (.int .i64 t.k) /\ w.cell? ⟨g, o + 1, none⟩ = some (.string t.s) /\ w.cell? ⟨g, o + 2, none⟩ = some (.int .i64 t.n) /\ w.cell? ⟨g, o + 3, none⟩ = some (.int .i64 t.p)
theorem TAt.below {W W' : World} {g o : Nat} {x : Tk} (h : TAt W g o x) (hb : Below W.heap.size W W') (hg : g < W.heap.size) : TAt W' g o x :=
 ⟨(hb.cell (p := ⟨g, _, none⟩) hg).trans h.1, (hb.cell (p := ⟨g, _, none⟩) hg).trans h.2.1, (hb.cell (p := ⟨g, _, none⟩) hg).trans h.2.2.1, (hb.cell (p := ⟨g, _, none⟩) hg).trans h.2.2.2⟩
theorem TkRow.head {w : World} {g o : Nat} {t : Tk} {l : List Tk} (h : TkRow w g o (t :: l)) : TAt w g o t := by
 have := h 0 t rfl
 simpa [TAt] using this
def hdT (l : List Tk) (E : Int) : Tk := match l with | [] => ⟨0, ⟨#[]⟩, 0, E⟩ | t :: _ => t
theorem zzl (s : PS) : s.pk = hdT s.l s.E := rfl
theorem ze7 (w : World) (b g o m c : Nat) (n : Int) (t : Tk) (h : L.Rd w b (some ⟨g, o, none⟩) (m + 1) c n) (hx : TAt w g o t) (hg : g < w.heap.size) :
  Calls Tryz.prog 46 #[.pointer (some ⟨b, 0, none⟩)] w fun e w' => e = .returned (.agg #[.int .i64 t.k, .string t.s, .int .i64 t.n, .int .i64 t.p]) /\ Below w.heap.size w w' := by
 obtain ⟨h0, h1, _, hlt⟩ := h.facts
 obtain ⟨x0, x1, x2, x3⟩ := hx
 have HD := jj (fun w1 (hb : Below w.heap.size w w1) => L.zeh w1 b (some ⟨g, o, none⟩) m c n ((hb.block b hlt).trans h))
 clear h
 go_enter Tryz.func46, Tryz.ntmps46
 go_wp2_with (go_at_call 54; refine (HD.out _ (baw _ _)).mono ?_; rintro e w' ⟨rfl, rfl⟩)
 exact bodyPost_ret (v := .agg #[.int .i64 t.k, .string t.s, .int .i64 t.n, .int .i64 t.p]) (by simp [results, Tryz.results46, go_sem]) rfl ⟨rfl, baw w _⟩
theorem zmy (w : World) (b g o m c : Nat) (n : Int) (t : Tk) (h : L.Rd w b (some ⟨g, o, none⟩) (m + 1) (c + 1) n) (hx : TAt w g o t) (hg : g < w.heap.size) (hm : m + 1 <= 1000000) (hc0 : 0 < c) :
  Calls Tryz.prog 125 #[.pointer (some ⟨b, 0, none⟩)] w fun e w' => e = .returned (.agg #[.int .i64 t.k, .string t.s, .int .i64 t.n, .int .i64 t.p]) /\ Fr (fun k => k = b) w w' /\ L.Rd w' b (some ⟨g, o + 4, none⟩) m c n := by
 obtain ⟨h0, h1, hf0, hlt⟩ := h.facts
 have HP := jj (fun w1 (hb : Below w.heap.size w w1) => ze7 w1 b g o m (c + 1)  n t ((hb.block b hlt).trans h) (hx.below hb hg) (lltl hg hb.size))
 have HD := jj (fun w1 (hb : Below w.heap.size w w1) => L.zeh w1 b (some ⟨g, o, none⟩) m (c + 1) n ((hb.block b hlt).trans h))
 have HRD := jj (fun w1 (hb : Below w.heap.size w w1) => (show L.Rd w1 b (some ⟨g, o, none⟩) (m + 1) (c + 1) n from (hb.block b hlt).trans h))
 clear h hx
 go_enter Tryz.func125, Tryz.ntmps125
 go_wp2_with (first | (go_at_call 46; refine (HP.out _ (baw _ _)).mono ?_; rintro e w1 ⟨rfl, hb1⟩; have hb := hb1.alloc hb1.size (.cells #[.int .i64 t.k, .string t.s, .int .i64 t.n, .int .i64 t.p] 63); obtain ⟨hc, hf⟩ := L.bcell hb; have HB := jj (((br w.heap.size w).alloc (lrf _) (.cells #[.int .i64 0, .string ⟨#[]⟩, .int .i64 0, .int .i64 0] 63)).trans (hb.mono (by simp))); obtain ⟨r0, r1, rf, rlt⟩ := (HRD.out _ HB.out).facts; have hz := hb1.size; simp at hz; obtain ⟨k1, j1⟩ := L.oth (w1.alloc (.cells #[.int .i64 t.k, .string t.s, .int .i64 t.n, .int .i64 t.p] 63)) b w1.heap.size (by omega) (.slice (some ⟨g, o + 4, none⟩) m c); obtain ⟨k2, j2⟩ := L.oth (w1.alloc (.cells #[.int .i64 t.k, .string t.s, .int .i64 t.n, .int .i64 t.p] 63)) b w.heap.size (by omega) (.slice (some ⟨g, o + 4, none⟩) m c)) | (go_at_call 54; refine (HD.out _ HB.out).mono ?_; rintro e w' ⟨rfl, rfl⟩))
 refine bodyPost_ret (v := .agg #[.int .i64 t.k, .string t.s, .int .i64 t.n, .int .i64 t.p]) (by simp [results, Tryz.results125, go_sem, hc, k2]) rfl ⟨rfl, ?_, L.zhe (L.zkp (HRD.out _ HB.out)) (by omega) _ _ _ _⟩
 refine Fr.set (b := w.heap.size) ?_ _ (.inr (lrf _))
 refine Fr.set (b := w.heap.size) ?_ _ (.inr (lrf _))
 refine Fr.set (b := w.heap.size) ?_ _ (.inr (lrf _))
 refine Fr.set (b := w.heap.size) ?_ _ (.inr (lrf _))
 refine Fr.set (b := b) ?_ _ (.inl rfl)
 exact (Fr.alloc w _).trans (Fr.of_below hb)
theorem zjo (w : World) (b g o : Nat) (n : Int) (t : Tk) (h : L.Rd w b (some ⟨g, o, none⟩) 1 1 n) (hx : TAt w g o t) (hg : g < w.heap.size) :
  Calls Tryz.prog 125 #[.pointer (some ⟨b, 0, none⟩)] w fun e w' => e = .returned (.agg #[.int .i64 t.k, .string t.s, .int .i64 t.n, .int .i64 t.p]) /\ Fr (fun k => k = b) w w' /\ L.Rd w' b (some ⟨g, o, none⟩) 0 0 n := by
 obtain ⟨h0, h1, hf0, hlt⟩ := h.facts
 have HP := jj (fun w1 (hb : Below w.heap.size w w1) => ze7 w1 b g o 0 1  n t ((hb.block b hlt).trans h) (hx.below hb hg) (lltl hg hb.size))
 have HD := jj (fun w1 (hb : Below w.heap.size w w1) => L.zeh w1 b (some ⟨g, o, none⟩) 0 1 n ((hb.block b hlt).trans h))
 have HRD := jj (fun w1 (hb : Below w.heap.size w w1) => (show L.Rd w1 b (some ⟨g, o, none⟩) 1 1 n from (hb.block b hlt).trans h))
 clear h hx
 go_enter Tryz.func125, Tryz.ntmps125
 go_wp2_with (first | (go_at_call 46; refine (HP.out _ (baw _ _)).mono ?_; rintro e w1 ⟨rfl, hb1⟩; have hb := hb1.alloc hb1.size (.cells #[.int .i64 t.k, .string t.s, .int .i64 t.n, .int .i64 t.p] 63); obtain ⟨hc, hf⟩ := L.bcell hb; have HB := jj (((br w.heap.size w).alloc (lrf _) (.cells #[.int .i64 0, .string ⟨#[]⟩, .int .i64 0, .int .i64 0] 63)).trans (hb.mono (by simp))); obtain ⟨r0, r1, rf, rlt⟩ := (HRD.out _ HB.out).facts; have hz := hb1.size; simp at hz; obtain ⟨k1, j1⟩ := L.oth (w1.alloc (.cells #[.int .i64 t.k, .string t.s, .int .i64 t.n, .int .i64 t.p] 63)) b w1.heap.size (by omega) (.slice (some ⟨g, o, none⟩) 0 0); obtain ⟨k2, j2⟩ := L.oth (w1.alloc (.cells #[.int .i64 t.k, .string t.s, .int .i64 t.n, .int .i64 t.p] 63)) b w.heap.size (by omega) (.slice (some ⟨g, o, none⟩) 0 0)) | (go_at_call 54; refine (HD.out _ HB.out).mono ?_; rintro e w' ⟨rfl, rfl⟩))
 refine bodyPost_ret (v := .agg #[.int .i64 t.k, .string t.s, .int .i64 t.n, .int .i64 t.p]) (by simp [results, Tryz.results125, go_sem, hc, k2]) rfl ⟨rfl, ?_, L.zhe (L.zkp (HRD.out _ HB.out)) (by omega) _ _ _ _⟩
 refine Fr.set (b := w.heap.size) ?_ _ (.inr (lrf _))
 refine Fr.set (b := w.heap.size) ?_ _ (.inr (lrf _))
 refine Fr.set (b := w.heap.size) ?_ _ (.inr (lrf _))
 refine Fr.set (b := w.heap.size) ?_ _ (.inr (lrf _))
 refine Fr.set (b := b) ?_ _ (.inl rfl)
 exact (Fr.alloc w _).trans (Fr.of_below hb)
theorem Rdr.below {B rb b : Nat} {w w' : World} {p : Option Addr} {l : List Tk} {E : Int} {dead : Bool} (h : Rdr B rb b w p l E dead) (hB : B <= w.heap.size) (hb0 : b < B) (hb : Below w.heap.size w w') : Rdr B rb b w' p l E dead := h.heap (hb.block _ (by omega)) fun g hg _ _ => hb.block g (by omega)
theorem zuf {B rb b : Nat} (w : World) {p : Option Addr} {l : List Tk} {E : Int} {dead : Bool} (h : Rdr B rb b w p l E dead) (hB : B <= w.heap.size) :
  Calls Tryz.prog 46 #[.pointer p] w fun e w' => e = .returned (.agg (tkArr (hdT l E))) /\ Below w.heap.size w w' := by
 rcases h with ⟨_, rfl, rfl, rfl⟩ | ⟨_, rfl, A, c, h1, h2, h3, h4⟩
 ·exact L.zlf w
 ·cases l with
  | nil => exact L.zkx w b A c E h1
  | cons t l =>
   obtain ⟨g, o, rfl, g1, _, _, hr⟩ := h4 (by simp)
   exact ze7 w b g o l.length c E t h1 hr.head (by omega)
theorem zyy {B rb b : Nat} (w : World) {p : Option Addr} {l : List Tk} {E : Int} {dead : Bool} (h : Rdr B rb b w p l E dead) :
  Calls Tryz.prog 54 #[.pointer p] w fun e w' => e = .returned (.bool l.isEmpty) /\ w = w' := by
 rcases h with ⟨_, rfl, rfl, rfl⟩ | ⟨_, rfl, A, c, h1, h2, h3, h4⟩
 ·exact L.zlp w
 ·cases l with
  | nil => exact L.zh1 w b A c E h1
  | cons t l => exact L.zeh w b A l.length c E h1
theorem zub {B rb b : Nat} (w : World) {p : Option Addr} {l : List Tk} {E : Int} {dead : Bool} (h : Rdr B rb b w p l E dead) (hB : B <= w.heap.size) (hb0 : b < B) :
  Calls Tryz.prog 125 #[.pointer p] w fun e w' => e = .returned (.agg (tkArr (hdT l E))) /\ Fr (fun k => k = b) w w' /\ Rdr B rb b w' p l.tail E dead := by
 rcases h with ⟨h0, rfl, rfl, rfl⟩ | ⟨h0, rfl, A, c, h1, h2, h3, h4⟩
 ·refine (L.zr1 w).mono ?_
  rintro e w' ⟨rfl, hb⟩
  exact ⟨rfl, Fr.of_below hb, .inl ⟨h0, rfl, rfl, rfl⟩⟩
 ·cases l with
  | nil =>
   refine (L.zra w b A c E h1).mono ?_
   rintro e w' ⟨rfl, hb⟩
   exact ⟨rfl, Fr.of_below hb, .inr ⟨h0, rfl, A, c, (hb.block b (by omega)).trans h1, h2, h3, fun hh => absurd rfl hh⟩⟩
  | cons t l =>
   obtain ⟨g, o, rfl, g1, g2, g3, hr⟩ := h4 (by simp)
   simp only [List.length_cons] at h1 h2 h3
   by_cases hc : c = 1
   ·subst hc
    obtain rfl : l = [] := List.eq_nil_of_length_eq_zero (by have := h3.1; omega)
    refine (zjo w b g o E t h1 hr.head (by omega)).mono ?_
    rintro e w' ⟨rfl, hf, hd⟩
    exact ⟨rfl, hf, .inr ⟨h0, rfl, _, _, hd, lrf _, ⟨Nat.zero_le _, by simp⟩, fun hh => absurd rfl hh⟩⟩
   ·obtain ⟨c, rfl⟩ : ∃ c', c = c' + 1 := ⟨c - 1, by omega⟩
    refine (zmy w b g o l.length c E t h1 hr.head (by omega) h3.1 (by omega)).mono ?_
    rintro e w' ⟨rfl, hf, hd⟩
    exact ⟨rfl, hf, .inr ⟨h0, rfl, _, _, hd, by simp; omega, ⟨by have := h3.1; simp; omega, fun t' ht' => h3.2 t' (List.mem_cons_of_mem _ ht')⟩, fun _ => ⟨g, o + 4, rfl, g1, g2, g3, hr.tail.heap (hf.block g (by omega) g3)⟩⟩⟩
theorem zl4 (w : World) (p : Option Addr) (t : Tk) (k : Int) (x : ByteArray) (hk0 : (k == 0) = false) (hk4 : (k == 4) = false)
  (HP : Hid (∀ w1, Below w.heap.size w w1 -> Calls Tryz.prog 46 #[.pointer p] w1 fun e w' => e = .returned (.agg #[.int .i64 t.k, .string t.s, .int .i64 t.n, .int .i64 t.p]) /\ Below w1.heap.size w1 w')) :
  Calls Tryz.prog 124 #[.pointer p, .int .i64 k, .string x] w fun e w' => e = .returned (.bool (decide (t.k = k) && (t.s.toList == x.toList))) /\ Below w.heap.size w w' := by
 by_cases h1 : t.k = k
 ·have h1' : (t.k == k) = true := by simpa using h1
  have hd : decide (t.k = k) = true := by simpa using h1
  rw [hd, Bool.true_and]
  clear h1 hd
  obtain ⟨y, hy⟩ : ∃ y, (t.s.toList == x.toList) = y := ⟨_, rfl⟩
  rw [hy]
  go_enter Tryz.func124, Tryz.ntmps124
  go_wp2_with (go_at_call 46; refine (HP.out _ (br _ _)).mono ?_; rintro e w1 ⟨rfl, hb1⟩; have hb := hb1.alloc hb1.size (.cells #[.int .i64 t.k, .string t.s, .int .i64 t.n, .int .i64 t.p] 63); obtain ⟨hc, hf⟩ := L.bcell hb)
  go_ret
  exact ⟨rfl, hb⟩
 ·have h1' : (t.k == k) = false := by simpa using h1
  have hd : decide (t.k = k) = false := by simpa using h1
  rw [hd, Bool.false_and]
  clear h1 hd
  go_enter Tryz.func124, Tryz.ntmps124
  go_wp2_with (go_at_call 46; refine (HP.out _ (br _ _)).mono ?_; rintro e w1 ⟨rfl, hb1⟩; have hb := hb1.alloc hb1.size (.cells #[.int .i64 t.k, .string t.s, .int .i64 t.n, .int .i64 t.p] 63); obtain ⟨hc, hf⟩ := L.bcell hb)
  go_ret
  exact ⟨rfl, hb⟩
theorem zzt (k : Int) (x : List UInt8) (l : List Tk) (E : Int) (hk : k ≠ 0) : isT k x l = (decide ((hdT l E).k = k) && ((hdT l E).s.toList == x)) := by
 cases l with
 | nil => simp [isT, hdT, Ne.symm hk]
 | cons t l => rfl
theorem is_r {B rb b : Nat} (w : World) {p : Option Addr} {l : List Tk} {E : Int} {dead : Bool} (h : Rdr B rb b w p l E dead) (hB : B <= w.heap.size) (hb0 : b < B) (k : Int) (x : ByteArray) (hk0 : k ≠ 0) (hk4 : k ≠ 4) :
  Calls Tryz.prog 124 #[.pointer p, .int .i64 k, .string x] w fun e w' => e = .returned (.bool (isT k x.toList l)) /\ Below w.heap.size w w' := by
 rw [zzt k x.toList l E hk0]
 exact zl4 w p (hdT l E) k x (by simpa using hk0) (by simpa using hk4) (jj fun w1 hb => zuf w1 (h.below hB hb0 hb) (ltr hB hb.size))
theorem zvq (w : World) (p : Option Addr) (k : Int) (x : ByteArray) (y : Bool) (Q : World -> Prop) (b : Nat)
  (HI : Hid (Calls Tryz.prog 124 #[.pointer p, .int .i64 k, .string x] w fun e w' => e = .returned (.bool y) /\ Below w.heap.size w w'))
  (HN : Hid (y = true -> ∀ w1, Below w.heap.size w w1 -> Calls Tryz.prog 125 #[.pointer p] w1 fun e w' => (∃ t : Tk, e = .returned (.agg (tkArr t))) /\ Fr (fun k => k = b) w1 w' /\ Q w')) (HQ : Hid (y = false -> ∀ w1, Below w.heap.size w w1 -> Q w1)) :
  Calls Tryz.prog 81 #[.pointer p, .int .i64 k, .string x] w fun e w' => e = .returned (.bool y) /\ Fr (fun k => k = b) w w' /\ Q w' := by
 cases y with
 | true =>
  have H := jj (HN.out rfl)
  clear HN HQ
  go_enter Tryz.func81, Tryz.ntmps81
  go_wp2_with (first | (go_at_call 124; refine HI.out.mono ?_; rintro e w1 ⟨rfl, hb1⟩; have H1 := jj hb1; clear hb1) | (go_at_call 125; refine (H.out _ H1.out).mono ?_; rintro e w2 ⟨⟨t, rfl⟩, hf2, hq⟩))
  go_ret
  exact ⟨rfl, (Fr.of_below H1.out).trans hf2, hq⟩
 | false =>
  have H := jj (HQ.out rfl)
  clear HN HQ
  go_enter Tryz.func81, Tryz.ntmps81
  go_wp2_with (go_at_call 124; refine HI.out.mono ?_; rintro e w1 ⟨rfl, hb1⟩)
  go_ret
  exact ⟨rfl, Fr.of_below hb1, H.out _ hb1⟩
theorem z0r {B rb b : Nat} (w : World) {p : Option Addr} {l : List Tk} {E : Int} {dead : Bool} (h : Rdr B rb b w p l E dead) (hB : B <= w.heap.size) (hb0 : b < B) (k : Int) (x : ByteArray) (hk0 : k ≠ 0) (hk4 : k ≠ 4) :
  Calls Tryz.prog 81 #[.pointer p, .int .i64 k, .string x] w fun e w' => e = .returned (.bool (isT k x.toList l)) /\ Fr (fun k => k = b) w w' /\ Rdr B rb b w' p (if isT k x.toList l = true then l.tail else l) E dead := by
 refine zvq w p k x _ _ b (jj (is_r w h hB hb0 k x hk0 hk4)) (jj fun hy w1 hb => ?_) (jj fun hy w1 hb => ?_)
 ·refine (zub w1 (h.below hB hb0 hb) (ltr hB hb.size) hb0).mono ?_
  rintro e w' ⟨rfl, hf, hr⟩
  exact ⟨⟨_, rfl⟩, hf, by rw [if_pos hy]; exact hr⟩
 ·rw [hy]
  simpa using h.below hB hb0 hb
open T Go.RowKit
def Rb (w : World) (rb : Nat) (p : Option Addr) (v : Value) (s : PS) : Prop := w.heap[rb]? = some (.cells #[.pointer p, v, .int .i64 s.d, .int .i64 s.err, .int .i64 s.place] 51 (0, 0))
section
variable {Av : Nat -> Prop} {B rb b : Nat} {w w' : World} {s s' : PS} {p p' : Option Addr} {v v' : Value}
theorem Rb.nbk (h : Rb w rb p v s) : nbk w rb = v.ownBlock := by unfold A.nbk; rw [zaa h 1]; rfl
theorem St.rb_ (h : St Av B rb b w s) : ∃ p v, Rb w rb p v s /\ Rdr B rb b w p s.l s.E s.dead := by
 obtain ⟨p, v, ps, h1, h2, _⟩ := h.at_
 exact ⟨p, v, h1, h2⟩
theorem Rb.cells (h : Rb w rb p v s) : w.cell? ⟨rb, 0, none⟩ = some (.pointer p) /\ w.cell? ⟨rb, 1, none⟩ = some v /\ w.cell? ⟨rb, 2, none⟩ = some (.int .i64 s.d) /\ w.cell? ⟨rb, 3, none⟩ = some (.int .i64 s.err) /\ w.cell? ⟨rb, 4, none⟩ = some (.int .i64 s.place) :=
 ⟨zaa h 0, zaa h 1, zaa h 2, zaa h 3, zaa h 4⟩
theorem Rb.frozen (h : Rb w rb p v s) (j : Nat) : w.frozen? ⟨rb, j, none⟩ = false := zac h j
theorem St.own (h : St Av B rb b w s) (hN : s'.N = s.N) (hsz : w.heap.size <= w'.heap.size) (hk : ∀ k, k ≠ rb -> k < w.heap.size -> w'.heap[k]? = w.heap[k]?) (h0 : Rb w rb p v s) (h1 : Rb w' rb p' v s') (hR : Rdr B rb b w p s.l s.E s.dead -> Rdr B rb b w' p' s'.l s'.E s'.dead) : St Av B rb b w' s' := by
 have hBs := h.hB
 obtain ⟨q, u, ps, h2, h3, h4, h5⟩ := h.at_
 have e := h0.symm.trans h2
 simp only [Option.some.injEq, Obj.cells.injEq, Array.mk.injEq, List.cons.injEq, Value.pointer.injEq] at e
 obtain ⟨⟨rfl, rfl, _⟩, _⟩ := e
 have hlt : rb < B := h.hrb
 refine ⟨fun g hg => lltl (h.av g hg) hsz, h.hrb, h.hb, ltr hBs hsz, h.ne, p', v, ps, h1, hR h3, hN ▸ h4, ⟨⟨h5.1.1.1, ?_⟩, fun x hx => ⟨(h5.1.2 x hx).1, ?_⟩⟩, h5.2⟩
 ·rcases h5.1.1.2 with h0 | ⟨g, cap, cur, e1, e2, e3, e4⟩
  ·exact .inl h0
  ·exact .inr ⟨g, cap, cur, e1, e2, (hk g (by omega) (age.1 e3).1).trans e3, e4⟩
 ·rcases (h5.1.2 x hx).2 with h0 | ⟨g, cap, cur, e1, e2, e3, e4⟩
  ·exact .inl h0
  ·exact .inr ⟨g, cap, cur, e1, e2, (hk g (by omega) (age.1 e3).1).trans e3, e4⟩
theorem Rdr.own (h : St Av B rb b w s) (hk : ∀ k, k ≠ rb -> k < w.heap.size -> w'.heap[k]? = w.heap[k]?) {q : Option Addr} {l : List Tk} {E : Int} {dead : Bool} (hR : Rdr B rb b w q l E dead) : Rdr B rb b w' q l E dead := by
 have hb := h.blt
 have hB := h.hB
 exact hR.heap (hk b (Ne.symm h.ne) hb) fun g hg hg1 _ => hk g hg1 (by omega)
theorem Kpt.own (ho : w'.os = w.os) (ht : w'.tape = w.tape) (hu : w'.output = w.output) (hsz : w.heap.size <= w'.heap.size) (hk : ∀ k, k ≠ rb -> k < w.heap.size -> w'.heap[k]? = w.heap[k]?) (h0 : Rb w rb p v s) (h1 : Rb w' rb p' v s') : Kpt rb b w w' :=
 ⟨⟨ho, ht, hu, hsz, fun k hk1 hh => hk k (fun e => hh (.inl e)) hk1⟩, .inl (h1.nbk.trans h0.nbk.symm)⟩
theorem St.rd (h : St Av B rb b w s) (h0 : Rb w rb p v s) (hf : Fr (fun k => k = b) w w') {l : List Tk} {E : Int} {dead : Bool} (hR : Rdr B rb b w' p l E dead) : St Av B rb b w' { s with l := l, E := E, dead := dead } := by
 have hB := h.hB
 have hrb := h.rlt
 obtain ⟨q, u, ps, h2, h3, h4, h5⟩ := h.at_
 have e := h0.symm.trans h2
 simp only [Option.some.injEq, Obj.cells.injEq, Array.mk.injEq, List.cons.injEq, Value.pointer.injEq] at e
 obtain ⟨⟨rfl, rfl, _⟩, _⟩ := e
 have hbB : b < B := h.hb
 refine ⟨fun g hg => lltl (h.av g hg) hf.size, h.hrb, h.hb, ltr hB hf.size, h.ne, p, v, ps, (hf.block rb hrb h.ne).trans h2, hR, h4, ⟨⟨h5.1.1.1, ?_⟩, fun x hx => ⟨(h5.1.2 x hx).1, ?_⟩⟩, h5.2⟩
 ·rcases h5.1.1.2 with h0 | ⟨g, cap, cur, e1, e2, e3, e4⟩
  ·exact .inl h0
  ·exact .inr ⟨g, cap, cur, e1, e2, (hf.block g (age.1 e3).1 (by omega)).trans e3, e4⟩
 ·rcases (h5.1.2 x hx).2 with h0 | ⟨g, cap, cur, e1, e2, e3, e4⟩
  ·exact .inl h0
  ·exact .inr ⟨g, cap, cur, e1, e2, (hf.block g (age.1 e3).1 (by omega)).trans e3, e4⟩
theorem Kpt.rd (h : St Av B rb b w s) (hf : Fr (fun k => k = b) w w') : Kpt rb b w w' :=
 ⟨hf.mono fun _k hk => .inr (.inl hk), .inl (zc4 (hf.block rb h.rlt h.ne))⟩
end
section
variable {Av : Nat -> Prop} {B rb b : Nat} {w : World} {s : PS}
theorem zbm (h : St Av B rb b w s) {p : Option Addr} {v : Value} (hp : Rb w rb p v s) : Calls Tryz.prog 46 #[.pointer p] w fun e w' => e = .returned (.agg #[.int .i64 s.pk.k, .string s.pk.s, .int .i64 s.pk.n, .int .i64 s.pk.p]) /\ Below w.heap.size w w' := by
 obtain ⟨q, u, h1, h2⟩ := h.rb_
 have e := hp.symm.trans h1
 simp only [Option.some.injEq, Obj.cells.injEq, Array.mk.injEq, List.cons.injEq, Value.pointer.injEq] at e
 obtain ⟨⟨rfl, rfl, _⟩, _⟩ := e
 exact zuf w h2 h.hB
theorem zgw (h : St Av B rb b w s) {p : Option Addr} {v : Value} (hp : Rb w rb p v s) : Calls Tryz.prog 125 #[.pointer p] w fun e w' => e = .returned (.agg #[.int .i64 s.pk.k, .string s.pk.s, .int .i64 s.pk.n, .int .i64 s.pk.p]) /\ St Av B rb b w' s.nx /\ Kpt rb b w w' := by
 obtain ⟨q, u, h1, h2⟩ := h.rb_
 have e := hp.symm.trans h1
 simp only [Option.some.injEq, Obj.cells.injEq, Array.mk.injEq, List.cons.injEq, Value.pointer.injEq] at e
 obtain ⟨⟨rfl, rfl, _⟩, _⟩ := e
 refine (zub w h2 h.hB h.hb).mono ?_
 rintro e w' ⟨rfl, hf, hr⟩
 exact ⟨rfl, h.rd h1 hf hr, Kpt.rd h hf⟩
theorem is_s (h : St Av B rb b w s) {p : Option Addr} {v : Value} (hp : Rb w rb p v s) (k : Int) (x : ByteArray) (hk0 : k ≠ 0) (hk4 : k ≠ 4) : Calls Tryz.prog 124 #[.pointer p, .int .i64 k, .string x] w fun e w' => e = .returned (.bool (s.is k x.toList)) /\ Below w.heap.size w w' := by
 obtain ⟨q, u, h1, h2⟩ := h.rb_
 have e := hp.symm.trans h1
 simp only [Option.some.injEq, Obj.cells.injEq, Array.mk.injEq, List.cons.injEq, Value.pointer.injEq] at e
 obtain ⟨⟨rfl, rfl, _⟩, _⟩ := e
 exact is_r w h2 h.hB h.hb k x hk0 hk4
theorem zp5 (h : St Av B rb b w s) {p : Option Addr} {v : Value} (hp : Rb w rb p v s) (k : Int) (x : ByteArray) (hk0 : k ≠ 0) (hk4 : k ≠ 4) : Calls Tryz.prog 81 #[.pointer p, .int .i64 k, .string x] w fun e w' => e = .returned (.bool (s.is k x.toList)) /\ St Av B rb b w' (s.tk k x.toList) /\ Kpt rb b w w' := by
 obtain ⟨q, u, h1, h2⟩ := h.rb_
 have e := hp.symm.trans h1
 simp only [Option.some.injEq, Obj.cells.injEq, Array.mk.injEq, List.cons.injEq, Value.pointer.injEq] at e
 obtain ⟨⟨rfl, rfl, _⟩, _⟩ := e
 refine (z0r w h2 h.hB h.hb k x hk0 hk4).mono ?_
 rintro e w' ⟨rfl, hf, hr⟩
 refine ⟨rfl, ?_, Kpt.rd h hf⟩
 have := h.rd h1 hf hr
 unfold PS.tk PS.is
 split at this <;> rename_i hh
 ·rw [if_pos hh]; exact this
 ·rw [if_neg hh]; exact this
theorem zy5 (h : St Av B rb b w s) {p : Option Addr} {v : Value} (hp : Rb w rb p v s) : Calls Tryz.prog 54 #[.pointer p] w fun e w' => e = .returned (.bool s.l.isEmpty) /\ w = w' := by
 obtain ⟨q, u, h1, h2⟩ := h.rb_
 have e := hp.symm.trans h1
 simp only [Option.some.injEq, Obj.cells.injEq, Array.mk.injEq, List.cons.injEq, Value.pointer.injEq] at e
 obtain ⟨⟨rfl, rfl, _⟩, _⟩ := e
 exact zyy w h2
end
theorem zat (k n p : Int) (s : ByteArray) (w : World) : Sem.run Tryz.prog (Instr.field 63 (.agg #[.int .i64 k, .string s, .int .i64 n, .int .i64 p]) 3) w = .ok (.int .i64 p) w := by kernel_rfl
theorem zau (k n p : Int) (s : ByteArray) (w : World) : Sem.run Tryz.prog (Instr.field 63 (.agg #[.int .i64 k, .string s, .int .i64 n, .int .i64 p]) 1) w = .ok (.string s) w := by kernel_rfl
theorem zas (k n p : Int) (s : ByteArray) (w : World) : Sem.run Tryz.prog (Instr.field 63 (.agg #[.int .i64 k, .string s, .int .i64 n, .int .i64 p]) 2) w = .ok (.int .i64 n) w := by kernel_rfl
open T Go.RowKit Go.Shelf
attribute [local go_sem] zat zau zas
theorem zk9 (x : Nd) (A : Option Addr) (n c : Nat) (w : World) : Calls Tryz.prog 89 #[.agg #[.int .i64 x.kind, .int .i64 x.a, .int .i64 x.b, .int .i64 x.c, .int .i64 x.n, .string x.nm, .string x.s, .slice A n c, .int .i64 x.pos]] w fun e w' => e = .returned (.bool (decide (1048576 < x.pos))) /\ Below w.heap.size w w' := by
 obtain ⟨p, hp⟩ : ∃ p, x.pos = p := ⟨_, rfl⟩
 rw [hp]
 by_cases h : 1048576 < p
 ·rw [decide_eq_true h]
  go_enter Tryz.func89, Tryz.ntmps89
  go_wp2
  go_ret
  exact ⟨rfl, baw w _⟩
 ·rw [decide_eq_false h]
  go_enter Tryz.func89, Tryz.ntmps89
  go_wp2
  go_ret
  exact ⟨rfl, baw w _⟩
theorem zsd (l : List Nd) (L c : Nat) (A : Option Addr) (w : World) (HL : Hid (l.length = L)) (hL : L <= 1000000) (HN : Hid (0 < L -> ∃ b o, A = some (⟨b, o, none⟩ : Addr) /\ b < w.heap.size /\ NdsAt w.heap.size w b o l)) :
  Calls Tryz.prog 130 #[.slice A L c, .func (.func 89) #[] #[]] w (FxPost (l.any fun x => decide (1048576 < x.pos)) w) := by
 go_enter Tryz.func130, Tryz.ntmps130
 go_wp2
 go_loopw [8] (fun i wr => ∃ q : Nat, i = .int .i64 (q : Int) /\ q <= L /\ Hid ((l.take q).any (fun x => decide (1048576 < x.pos)) = false) /\ Hid (Below w.heap.size w wr)) (fun i _ => L - (intOf i).toNat)
 case atStart => exact ⟨0, rfl, Nat.zero_le _, jj (by simp), jj (br _ _)⟩
 case round =>
  obtain ⟨q, rfl, hq, HC, HB⟩ := hrel
  have hsz := HB.out.size
  by_cases hlt : q < L
  ·obtain ⟨x, hx⟩ : ∃ x, l[q]? = some x := ⟨_, List.getElem?_eq_getElem (by rw [HL.out]; exact hlt)⟩
   obtain ⟨b, o, rfl, hb, hn⟩ := HN.out (by omega)
   obtain ⟨fv, hfl, m0, m1, m2, m3, m4, m5, m6, m7, m8⟩ := (NdsAt.below hn HB.out hb) q x hx
   obtain ⟨FA, fc, rfl, _⟩ := hfl
   have HNN := jj hn
   clear hn
   cases hp : decide (1048576 < x.pos) with
   | true =>
    have HY := jj (zhn (fun x : Nd => decide (1048576 < x.pos)) l q x hx hp)
    have HP := jj hp
    clear hx hp
    go_wp2_with (go_at_call 89; refine (zk9 x FA _ fc wr).mono ?_; rintro e w1 ⟨rfl, hb1⟩; rw [HP.out]; have HBB := jj hb1; clear hb1)
    go_ret
    exact ⟨⟨_, rfl, by rw [HY.out]; simp⟩, HB.out.trans (HBB.out.mono hsz)⟩
   | false =>
    have HY := jj (zlo (fun x : Nd => decide (1048576 < x.pos)) l q x hx HC.out hp)
    have HP := jj hp
    clear hx hp
    go_wp2_with (go_at_call 89; refine (zk9 x FA _ fc wr).mono ?_; rintro e w1 ⟨rfl, hb1⟩; rw [HP.out]; have HBB := jj hb1; clear hb1)
    go_roundw
    case rel => exact ⟨q + 1, by go_num, by omega, HY, jj (HB.out.trans (HBB.out.mono hsz))⟩
    case measure => simp [intOf]; omega
  ·obtain rfl : q = L := by omega
   go_wp2
   go_ret
   exact ⟨⟨_, rfl, by have := HC.out; rw [List.take_of_length_le (by rw [HL.out]; omega)] at this; rw [this]; rfl⟩, HB.out⟩
theorem zp8 (l : List Nd) (v : Value) (w : World) (t : Bool) (ht : far l = t) (hL : l.length <= 1000000) (hv : Nodes w.heap.size w v l) :
  Calls Tryz.prog 88 #[v, .func (.func 89) #[] #[]] w fun e w' => e = .returned (.bool t) /\ Below w.heap.size w w' := by
 obtain ⟨A, c, rfl, _, _, hh⟩ := hv
 obtain ⟨L, hl⟩ : ∃ L, l.length = L := ⟨_, rfl⟩
 rw [hl] at hh hL ⊢
 have HC := jj (zsd l L c A w (jj hl) hL (jj hh))
 rw [show (l.any fun x => decide (1048576 < x.pos)) = t from ht] at HC
 clear ht hh hl
 go_enter Tryz.func88, Tryz.ntmps88
 go_wp2_with (go_at_call 130; refine HC.out.mono ?_; rintro e w1 ⟨⟨r, rfl, hr⟩, hb1⟩)
 go_ret
 exact ⟨zag (by first | exact hr | simp), hb1⟩
noncomputable def mayE (l : List Nd) : Int := if far l = true then 7 else may l
theorem zq5 (l : List Nd) (v : Value) (w : World) (hK : Kws w.heap.size w) (hv : Nodes w.heap.size w v l) (hS : ∀ x ∈ l, Small x) (hL : l.length <= 1000000) :
  Calls Tryz.prog 55 #[.agg #[v]] w fun e w' => e = .returned (.int .i64 (mayE l)) /\ Below w.heap.size w w' := by
 have hal : Below w.heap.size w (w.alloc (.cells #[v] 25)) := baw w _
 have HC := fun t ht => jj (zp8 l v (w.alloc (.cells #[v] 25)) t ht hL ((hv.below hal).mono hal.size))
 have HM : Hid (∀ W, Below (w.alloc (.cells #[v] 25)).heap.size (w.alloc (.cells #[v] 25)) W -> Calls Tryz.prog 13 #[.agg #[v]] W fun e w' => e = .returned (.int .i64 (may l)) /\ Below W.heap.size W w') := jj fun W hb =>
  zvy l v W (zci ((zci (hK.on hal) hal.size).on hb) hb.size) ((((hv.below hal).mono hal.size).below hb).mono hb.size) hS
 have HAL := jj hal
 have HCL : Hid (∃ A c, v = .slice A l.length c) := jj (by obtain ⟨A, c, e, _⟩ := hv; exact ⟨A, c, e⟩)
 obtain ⟨A, c, rfl⟩ := HCL.out
 unfold mayE
 clear hv hS hK HCL hal
 cases hf : far l with
 | true =>
  have H1 := HC true hf
  rw [if_pos rfl]
  clear HC hf
  go_enter Tryz.func55, Tryz.ntmps55
  go_wp2_with (go_at_call 88; refine H1.out.mono ?_; rintro e w1 ⟨rfl, hb1⟩)
  go_ret
  exact ⟨rfl, HAL.out.trans (hb1.mono (by simp))⟩
 | false =>
  have H1 := HC false hf
  rw [if_neg (by decide)]
  obtain ⟨m, hm⟩ : ∃ m, may l = m := ⟨_, rfl⟩
  rw [hm] at HM ⊢
  clear HC hf hm
  go_enter Tryz.func55, Tryz.ntmps55
  go_wp2_with (first | (go_at_call 13; refine (HM.out _ H2.out).mono ?_; rintro e w2 ⟨rfl, hb2⟩) | (go_at_call 88; refine H1.out.mono ?_; rintro e w1 ⟨rfl, hb1⟩; have H2 := jj hb1; have hc1 := (hb1.cell (p := ⟨w.heap.size, 0, none⟩) (by simp)).trans (zaa (anw w (.cells #[.slice A l.length c] 25)) 0); clear hb1))
  go_ret
  exact ⟨rfl, HAL.out.trans ((H2.out.mono (by simp)).trans (hb2.mono (by have := H2.out.size; simp at this; omega)))⟩
open T Go.RowKit Go.Shelf
attribute [local go_sem] zat zau zas
def PPost (B : Nat) (t : List Nd) (n er : Int) (w : World) (e : Ending) (w' : World) : Prop := ∃ v ps, e = .returned (.tuple #[.agg #[v], .int .i64 n, .int .i64 er]) /\ ps.map Prod.fst = t /\ OwnN B w' v ps /\ Below w.heap.size w w'
section
variable {Av : Nat -> Prop} {B rb b : Nat} {w w' W : World} {s s' : PS}
theorem res28 (tmps : Array Value) (W : World) (p : Nat) (A : Option Addr) (n c : Nat) (z er : Int) (h2 : tmps[2]?.getD undef = .pointer (some ⟨p, 0, none⟩)) (h3 : tmps[3]?.getD undef = .int .i64 z) (h4 : tmps[4]?.getD undef = .int .i64 er) (hb : W.cell? ⟨p, 0, none⟩ = some (.slice A n c)) :
  Sem.run Tryz.prog (results Tryz.f28 tmps) W = .ok (.tuple #[.agg #[.slice A n c], .int .i64 z, .int .i64 er]) W := by
 simp [results, Tryz.results28, go_sem, h2, h3, h4, hb]
theorem zqu (h : St Av B rb b w s) (he : s.err ≠ 0) : Calls Tryz.prog 28 #[.pointer (some ⟨rb, 0, none⟩)] w (PPost B [] s.place s.err w) := by
 have hb0 : Below w.heap.size w (w.alloc (.cells #[.slice none 0 0] 25)) := baw w _
 obtain ⟨p, v, hp, _⟩ := (h.alloc (.cells #[.slice none 0 0] 25)).rb_
 obtain ⟨c0, c1, c2, c3, c4⟩ := hp.cells
 have f0 : (w.alloc (.cells #[.slice none 0 0] 25)).frozen? ⟨w.heap.size, 0, none⟩ = false := zac (anw w _) 0
 have d0 : (w.alloc (.cells #[.slice none 0 0] 25)).cell? ⟨w.heap.size, 0, none⟩ = some (.slice none 0 0) := zaa (anw w _) 0
 have hz : (s.err != 0) = true := by simpa using he
 have HB := jj hb0
 have hl := h.rlt
 have hne : ¬ (w.heap.size = rb) := by omega
 have hne2 : ¬ (rb = w.heap.size) := by omega
 clear h hp he hb0
 go_enter Tryz.func28, Tryz.ntmps28
 go_wp2
 go_region
 all_goals
  go_wp2
  refine bodyPost_ret (res28 _ _ w.heap.size none 0 0 _ _ rfl rfl rfl (by go_simp)) rfl ⟨_, [], rfl, rfl, zcp _ _, HB.out.drew⟩
theorem zo5 (h : St Av B rb b w s) (he : s.err = 0) (hK : Kws w.heap.size w) (hS : ∀ x ∈ s.N, Small x) (hL : s.N.length <= 1000000) : Calls Tryz.prog 28 #[.pointer (some ⟨rb, 0, none⟩)] w (PPost B (if mayE s.N = 0 then s.N else []) 0 (mayE s.N) w) := by
 obtain ⟨p, v, ps, h1, h2, h3, h4⟩ := h.at_
 obtain ⟨A, c, hv, _⟩ := zdg h4.1
 rw [h3] at hv
 subst hv
 have hn := zdg h4.1
 rw [h3] at hn
 have hb0 : Below w.heap.size w (w.alloc (.cells #[.slice none 0 0] 25)) := baw w _
 have hb1 : Below w.heap.size w ((w.alloc (.cells #[.slice none 0 0] 25)).alloc (.cells #[.slice A s.N.length c] 25)) := hb0.alloc (by simp) _
 have h0 := h.alloc (.cells #[.slice none 0 0] 25)
 have hp : Rb (w.alloc (.cells #[.slice none 0 0] 25)) rb p (.slice A s.N.length c) s := (hb0.block rb h.rlt).trans h1
 obtain ⟨c0, c1, c2, c3, c4⟩ := hp.cells
 have hz : (s.err != 0) = false := by simpa using he
 have hlt := h.rlt
 have HM := jj (zq5 s.N _ _ (zci (hK.on hb1) hb1.size) ((hn.below hb1).mono hb1.size) hS hL)
 have HO : Hid (∀ W, Below (w.heap.size + 1) ((w.alloc (.cells #[.slice none 0 0] 25)).alloc (.cells #[.slice A s.N.length c] 25)) W -> ∀ u : Value, OwnN B (W.setCell ⟨w.heap.size, 0, none⟩ u) (.slice A s.N.length c) ps) := jj fun W hb u => by
  have hbb : Below w.heap.size w W := hb1.trans (hb.mono (by omega))
  have h5 := zbf h4.1 (zb1 hbb)
  refine ⟨⟨h5.1.1, ?_⟩, fun x hx => ⟨(h5.2 x hx).1, ?_⟩⟩
  ·rcases h4.1.1.2 with e0 | ⟨g, cap, cur, e1, e2, e3, e4⟩
   ·exact .inl e0
   ·have hg := (age.1 e3).1
    exact .inr ⟨g, cap, cur, e1, e2, (zaf _ _ _ _ _ (by omega)).trans ((hbb.block g hg).trans e3), e4⟩
  ·rcases (h4.1.2 x hx).2 with e0 | ⟨g, cap, cur, e1, e2, e3, e4⟩
   ·exact .inl e0
   ·have hg := (age.1 e3).1
    exact .inr ⟨g, cap, cur, e1, e2, (zaf _ _ _ _ _ (by omega)).trans ((hbb.block g hg).trans e3), e4⟩
 have HB1 := jj hb1
 have HN := jj h3
 obtain ⟨m, hm⟩ : ∃ m, s.N.length = m := ⟨_, rfl⟩
 obtain ⟨N, hNN⟩ : ∃ N, s.N = N := ⟨_, rfl⟩
 rw [hm] at HM HO HB1 c1
 rw [hNN] at HM HN ⊢
 obtain ⟨q, hq⟩ : ∃ q, mayE N = q := ⟨_, rfl⟩
 rw [hq] at HM ⊢
 clear h h1 h2 h3 h4 hn hb0 hb1 h0 hp he hK hS hL hm hNN hq
 by_cases h0 : q = 0
 ·subst h0
  rw [if_pos rfl]
  go_enter Tryz.func28, Tryz.ntmps28
  go_wp2_with (go_at_call 55; refine HM.out.mono ?_; rintro e w1 ⟨rfl, hb1⟩; have k0 := (hb1.cell (p := ⟨w.heap.size, 0, none⟩) (by simp; omega)).trans (zaa (nextAt (anw w (.cells #[.slice none 0 0] 25))) 0); have k1 := (hb1.cell (p := ⟨w.heap.size + 1, 0, none⟩) (by simp)).trans (zaa (newAt (W := w.alloc (.cells #[.slice none 0 0] 25)) (o := .cells #[.slice A m c] 25) (by simp)) 0); have k2 : w1.frozen? ⟨w.heap.size, 0, none⟩ = false := (hb1.frozen (p := ⟨w.heap.size, 0, none⟩) (by simp; omega)).trans (zac (nextAt (anw w (.cells #[.slice none 0 0] 25))) 0); have HX := jj hb1; clear hb1)
  exact bodyPost_ret (res28 _ _ w.heap.size A m c _ _ rfl rfl rfl (by go_simp)) rfl ⟨_, ps, rfl, HN.out, HO.out _ (HX.out.mono (by simp)) _, (HB1.out.trans (HX.out.mono (by simp; omega))).setCell (p := ⟨w.heap.size, 0, none⟩) (lrf _) _⟩
 ·have hz2 : (q != 0) = true := by simpa using h0
  rw [if_neg h0]
  clear h0
  go_enter Tryz.func28, Tryz.ntmps28
  go_wp2_with (go_at_call 55; refine HM.out.mono ?_; rintro e w1 ⟨rfl, hb1⟩; have k0 := (hb1.cell (p := ⟨w.heap.size, 0, none⟩) (by simp; omega)).trans (zaa (nextAt (anw w (.cells #[.slice none 0 0] 25))) 0); have k2 : w1.frozen? ⟨w.heap.size, 0, none⟩ = false := (hb1.frozen (p := ⟨w.heap.size, 0, none⟩) (by simp; omega)).trans (zac (nextAt (anw w (.cells #[.slice none 0 0] 25))) 0); have HX := jj hb1; clear hb1)
  exact bodyPost_ret (res28 _ _ w.heap.size none 0 0 _ _ rfl rfl rfl (by go_simp)) rfl ⟨_, [], rfl, rfl, zcp _ _, (HB1.out.trans (HX.out.mono (by simp; omega))).setCell (p := ⟨w.heap.size, 0, none⟩) (lrf _) _⟩
end
open T Go.RowKit
attribute [local go_sem] zat zau zas
section
variable {Av : Nat -> Prop} {B rb b : Nat} {w : World} {s : PS}
theorem z0w {w : World} {rb : Nat} {p : Option Addr} {v : Value} {s : PS} (h : Rb w rb p v s) (pl e : Int) (h0 : s.err = 0) :
  Rb (((w.setCell ⟨rb, 4, none⟩ (.int .i64 pl)).setCell ⟨rb, 3, none⟩ (.int .i64 e)).setCell ⟨rb, 0, none⟩ (.pointer none)) rb none v (s.no pl e) := by
 have h1 := zaq (j := 0) (v := .pointer none) (zaq (j := 3) (v := .int .i64 e) (zaq (j := 4) (v := .int .i64 pl) h))
 unfold Rb PS.no
 rw [if_pos h0, if_pos h0]
 exact h1
theorem zxk {w : World} {rb : Nat} {p : Option Addr} {v : Value} {s : PS} (h : Rb w rb p v s) (pl e : Int) (h0 : s.err ≠ 0) : Rb (w.setCell ⟨rb, 0, none⟩ (.pointer none)) rb none v (s.no pl e) := by
 have h1 := zaq (j := 0) (v := .pointer none) h
 unfold Rb PS.no
 rw [if_neg h0, if_neg h0]
 exact h1
theorem zbj (h : St Av B rb b w s) (pl e : Int) : Calls Tryz.prog 47 #[.pointer (some ⟨rb, 0, none⟩), .int .i64 pl, .int .i64 e] w (VPost Av B rb b w (s.no pl e)) := by
 obtain ⟨p, v, hp, hR⟩ := h.rb_
 obtain ⟨c0, c1, c2, c3, c4⟩ := hp.cells
 have f := hp.frozen
 by_cases h0 : s.err = 0
 ·have hz : (s.err == 0) = true := by simpa using h0
  have H1 := jj (z0w hp pl e h0)
  have H := jj h
  have HP := jj hp
  clear h hp hR h0
  go_enter Tryz.func47, Tryz.ntmps47
  go_wp2
  go_end0
  have hk : ∀ k, k ≠ rb -> k < w.heap.size -> ((((w.setCell ⟨rb, 4, none⟩ (.int .i64 pl)).setCell ⟨rb, 3, none⟩ (.int .i64 e)).setCell ⟨rb, 0, none⟩ (.pointer none)).heap[k]? = w.heap[k]?) := fun k hk _ =>
   (zaf _ _ _ _ _ hk).trans ((zaf _ _ _ _ _ hk).trans (zaf _ _ _ _ _ hk))
  exact ⟨rfl, H.out.own rfl (by simp) hk HP.out H1.out fun _ => .inl ⟨rfl, rfl, rfl, rfl⟩, Kpt.own rfl rfl rfl (by simp) hk HP.out H1.out⟩
 ·have hz : (s.err == 0) = false := by simpa using h0
  have H1 := jj (zxk hp pl e h0)
  have H := jj h
  have HP := jj hp
  clear h hp hR h0
  go_enter Tryz.func47, Tryz.ntmps47
  go_wp2
  go_end0
  have hk : ∀ k, k ≠ rb -> k < w.heap.size -> ((w.setCell ⟨rb, 0, none⟩ (.pointer none)).heap[k]? = w.heap[k]?) := fun k hk _ => zaf _ _ _ _ _ hk
  exact ⟨rfl, H.out.own rfl (by simp) hk HP.out H1.out fun _ => .inl ⟨rfl, rfl, rfl, rfl⟩, Kpt.own rfl rfl rfl (by simp) hk HP.out H1.out⟩
theorem zev (h : St Av B rb b w s) (x : ByteArray) : Calls Tryz.prog 49 #[.pointer (some ⟨rb, 0, none⟩), .string x] w (BPost Av B rb b w (s.is 1 x.toList) (s.tk 1 x.toList)) := by
 obtain ⟨p, v, hp, hR⟩ := h.rb_
 obtain ⟨c0, c1, c2, c3, c4⟩ := hp.cells
 have HT := jj (zp5 h hp 1 x (by decide) (by decide))
 clear h hp hR
 obtain ⟨y, hy⟩ : ∃ y, s.is 1 x.toList = y := ⟨_, rfl⟩
 rw [hy] at HT ⊢
 clear hy
 go_enter Tryz.func49, Tryz.ntmps49
 go_wp2_with (go_at_call 81; refine HT.out.mono ?_; rintro e w1 ⟨rfl, h1, k1⟩)
 go_ret
 exact ⟨rfl, h1, k1⟩
theorem zhr (h : St Av B rb b w s) (x : ByteArray) : Calls Tryz.prog 200 #[.pointer (some ⟨rb, 0, none⟩), .string x] w (BPost Av B rb b w (s.is 7 x.toList) (s.tk 7 x.toList)) := by
 obtain ⟨p, v, hp, hR⟩ := h.rb_
 obtain ⟨c0, c1, c2, c3, c4⟩ := hp.cells
 have HT := jj (zp5 h hp 7 x (by decide) (by decide))
 clear h hp hR
 obtain ⟨y, hy⟩ : ∃ y, s.is 7 x.toList = y := ⟨_, rfl⟩
 rw [hy] at HT ⊢
 clear hy
 go_enter Tryz.func200, Tryz.ntmps200
 go_wp2_with (go_at_call 81; refine HT.out.mono ?_; rintro e w1 ⟨rfl, h1, k1⟩)
 go_ret
 exact ⟨rfl, h1, k1⟩
theorem zsw (h : St Av B rb b w s) (k : Int) (x : ByteArray) (hk0 : k ≠ 0) (hk4 : k ≠ 4) : Calls Tryz.prog 83 #[.pointer (some ⟨rb, 0, none⟩), .int .i64 k, .string x] w (VPost Av B rb b w (s.must k x.toList)) := by
 obtain ⟨p, v, hp, hR⟩ := h.rb_
 obtain ⟨c0, c1, c2, c3, c4⟩ := hp.cells
 have HT := jj (zp5 h hp k x hk0 hk4)
 have HR := jj h.rlt
 clear h hp hR hk0 hk4
 by_cases hy : s.is k x.toList = true
 ·have e1 : s.must k x.toList = s.nx := by unfold PS.must; rw [if_pos hy]
  have e2 : s.tk k x.toList = s.nx := by unfold PS.tk; rw [if_pos hy]
  rw [e1]
  rw [hy, e2] at HT
  clear hy e1 e2
  go_enter Tryz.func83, Tryz.ntmps83
  go_wp2_with (go_at_call 81; refine HT.out.mono ?_; rintro e w1 ⟨rfl, h1, k1⟩)
  go_end0
  exact ⟨rfl, h1, k1⟩
 ·have e1 : s.must k x.toList = s.no s.pk.p 5 := by unfold PS.must; rw [if_neg hy]
  have e2 : s.tk k x.toList = s := by unfold PS.tk; rw [if_neg hy]
  rw [e1]
  rw [beff.2 hy, e2] at HT
  clear hy e1 e2
  go_enter Tryz.func83, Tryz.ntmps83
  go_wp2_with (first | (go_at_call 81; refine HT.out.mono ?_; rintro e w1 ⟨rfl, h1, k1⟩; obtain ⟨q, u, hq, _⟩ := h1.rb_; obtain ⟨d0, d1, d2, d3, d4⟩ := hq.cells; have H1 := jj h1; have K1 := jj k1; have HQ := jj hq; clear h1 k1 hq) | (go_at_call 46; refine (zbm H1.out HQ.out).mono ?_; rintro e w2 ⟨rfl, hb2⟩; have H2 := jj (H1.out.below hb2); have K2 := jj (K1.out.trans (Kpt.of_below H1.out.rlt hb2)); clear hb2) | (go_at_call 47; refine (zbj H2.out _ 5).mono ?_; rintro e w3 ⟨rfl, h3, k3⟩))
  go_end0
  exact ⟨rfl, h3, K2.out.trans k3⟩
end
end Go.Proofs.YtjakeidbajkdcaaGreatDoor.A
