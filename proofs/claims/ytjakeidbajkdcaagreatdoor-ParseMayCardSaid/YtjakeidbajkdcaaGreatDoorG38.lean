/- Joined by program: ARead, ASt2, ACallA, ACallB, ACallC. -/
import Derived.Test.YtjakeidbajkdcaaGreatDoorG25
import Derived.Test.YtjakeidbajkdcaaGreatDoorG37
import Derived.Test.YtjakeidbajkdcaaGreatDoorG15
/- The calls of a reader of tokens, whatever its state. -/
namespace Go.Proofs.YtjakeidbajkdcaaGreatDoor.A
open T Go.RowKit
/-- The cells of a token. -/
def tkArr (t : Tk) : Array Value := #[.int .i64 t.k, .string t.s, .int .i64 t.n, .int .i64 t.p]
def TAt (w : World) (g o : Nat) (t : Tk) : Prop := w.cell? ⟨g, o, none⟩ = some (.int .i64 t.k) ∧ w.cell? ⟨g, o + 1, none⟩ = some (.string t.s) ∧ w.cell? ⟨g, o + 2, none⟩ = some (.int .i64 t.n) ∧ w.cell? ⟨g, o + 3, none⟩ = some (.int .i64 t.p)
theorem TAt.below {W W' : World} {g o : Nat} {x : Tk} (h : TAt W g o x) (hb : Below W.heap.size W W') (hg : g < W.heap.size) : TAt W' g o x :=
  ⟨(hb.cell (p := ⟨g, _, none⟩) hg).trans h.1, (hb.cell (p := ⟨g, _, none⟩) hg).trans h.2.1, (hb.cell (p := ⟨g, _, none⟩) hg).trans h.2.2.1, (hb.cell (p := ⟨g, _, none⟩) hg).trans h.2.2.2⟩
theorem TkRow.head {w : World} {g o : Nat} {t : Tk} {l : List Tk} (h : TkRow w g o (t :: l)) : TAt w g o t := by
  have := h 0 t rfl
  simpa [TAt] using this
def hdT (l : List Tk) (E : Int) : Tk := match l with | [] => ⟨0, ⟨#[]⟩, 0, E⟩ | t :: _ => t
theorem pk_eq (s : PS) : s.pk = hdT s.l s.E := rfl
set_option maxHeartbeats 1000000 in
theorem peek_rd (w : World) (b g o m c : Nat) (n : Int) (t : Tk) (h : L.Rd w b (some ⟨g, o, none⟩) (m + 1) c n) (hx : TAt w g o t) (hg : g < w.heap.size) :
    Calls Tryz.prog 46 #[.pointer (some ⟨b, 0, none⟩)] w fun e w' => e = .returned (.agg #[.int .i64 t.k, .string t.s, .int .i64 t.n, .int .i64 t.p]) ∧ Below w.heap.size w w' := by
  obtain ⟨h0, h1, _, hlt⟩ := h.facts
  obtain ⟨x0, x1, x2, x3⟩ := hx
  have HD := Lib.hid (fun w1 (hb : Below w.heap.size w w1) => L.done_no w1 b (some ⟨g, o, none⟩) m c n ((hb.block b hlt).trans h))
  clear h
  go_enter Tryz.func46, Tryz.ntmps46
  go_wp2_with (go_at_call 54; refine (HD.out _ ((Below.refl _ _).alloc (Nat.le_refl _) _)).mono ?_; rintro e w' ⟨rfl, rfl⟩)
  exact bodyPost_ret (v := .agg #[.int .i64 t.k, .string t.s, .int .i64 t.n, .int .i64 t.p]) (by simp [results, Tryz.results46, go_sem]) rfl ⟨rfl, (Below.refl _ w).alloc (Nat.le_refl _) _⟩
set_option maxHeartbeats 1000000 in
theorem next_rd (w : World) (b g o m c : Nat) (n : Int) (t : Tk) (h : L.Rd w b (some ⟨g, o, none⟩) (m + 1) (c + 1) n) (hx : TAt w g o t) (hg : g < w.heap.size) (hm : m + 1 ≤ 1000000) (hc0 : 0 < c) :
    Calls Tryz.prog 125 #[.pointer (some ⟨b, 0, none⟩)] w fun e w' => e = .returned (.agg #[.int .i64 t.k, .string t.s, .int .i64 t.n, .int .i64 t.p]) ∧ Fr (fun k => k = b) w w' ∧ L.Rd w' b (some ⟨g, o + 4, none⟩) m c n := by
  obtain ⟨h0, h1, hf0, hlt⟩ := h.facts
  have HP := Lib.hid (fun w1 (hb : Below w.heap.size w w1) => peek_rd w1 b g o m (c + 1)  n t ((hb.block b hlt).trans h) (hx.below hb hg) (Nat.lt_of_lt_of_le hg hb.size))
  have HD := Lib.hid (fun w1 (hb : Below w.heap.size w w1) => L.done_no w1 b (some ⟨g, o, none⟩) m (c + 1) n ((hb.block b hlt).trans h))
  have HRD := Lib.hid (fun w1 (hb : Below w.heap.size w w1) => (show L.Rd w1 b (some ⟨g, o, none⟩) (m + 1) (c + 1) n from (hb.block b hlt).trans h))
  clear h hx
  go_enter Tryz.func125, Tryz.ntmps125
  go_wp2_with (first
    | (go_at_call 46; refine (HP.out _ ((Below.refl _ _).alloc (Nat.le_refl _) _)).mono ?_; rintro e w1 ⟨rfl, hb1⟩; have hb := hb1.alloc hb1.size (.cells #[.int .i64 t.k, .string t.s, .int .i64 t.n, .int .i64 t.p] 63); obtain ⟨hc, hf⟩ := L.bcell hb; have HB := Lib.hid (((Below.refl w.heap.size w).alloc (Nat.le_refl _) (.cells #[.int .i64 0, .string ⟨#[]⟩, .int .i64 0, .int .i64 0] 63)).trans (hb.mono (by simp))); obtain ⟨r0, r1, rf, rlt⟩ := (HRD.out _ HB.out).facts; have hz := hb1.size; simp at hz; obtain ⟨k1, j1⟩ := L.oth (w1.alloc (.cells #[.int .i64 t.k, .string t.s, .int .i64 t.n, .int .i64 t.p] 63)) b w1.heap.size (by omega) (.slice (some ⟨g, o + 4, none⟩) m c); obtain ⟨k2, j2⟩ := L.oth (w1.alloc (.cells #[.int .i64 t.k, .string t.s, .int .i64 t.n, .int .i64 t.p] 63)) b w.heap.size (by omega) (.slice (some ⟨g, o + 4, none⟩) m c))
    | (go_at_call 54; refine (HD.out _ HB.out).mono ?_; rintro e w' ⟨rfl, rfl⟩))
  refine bodyPost_ret (v := .agg #[.int .i64 t.k, .string t.s, .int .i64 t.n, .int .i64 t.p]) (by simp [results, Tryz.results125, go_sem, hc, k2]) rfl ⟨rfl, ?_, L.rd_four (L.rd_set (HRD.out _ HB.out)) (by omega) _ _ _ _⟩
  refine Fr.set (b := w.heap.size) ?_ _ (.inr (Nat.le_refl _))
  refine Fr.set (b := w.heap.size) ?_ _ (.inr (Nat.le_refl _))
  refine Fr.set (b := w.heap.size) ?_ _ (.inr (Nat.le_refl _))
  refine Fr.set (b := w.heap.size) ?_ _ (.inr (Nat.le_refl _))
  refine Fr.set (b := b) ?_ _ (.inl rfl)
  exact (Fr.alloc w _).trans (Fr.of_below hb)
set_option maxHeartbeats 1000000 in
theorem next_last (w : World) (b g o : Nat) (n : Int) (t : Tk) (h : L.Rd w b (some ⟨g, o, none⟩) 1 1 n) (hx : TAt w g o t) (hg : g < w.heap.size) :
    Calls Tryz.prog 125 #[.pointer (some ⟨b, 0, none⟩)] w fun e w' => e = .returned (.agg #[.int .i64 t.k, .string t.s, .int .i64 t.n, .int .i64 t.p]) ∧ Fr (fun k => k = b) w w' ∧ L.Rd w' b (some ⟨g, o, none⟩) 0 0 n := by
  obtain ⟨h0, h1, hf0, hlt⟩ := h.facts
  have HP := Lib.hid (fun w1 (hb : Below w.heap.size w w1) => peek_rd w1 b g o 0 1  n t ((hb.block b hlt).trans h) (hx.below hb hg) (Nat.lt_of_lt_of_le hg hb.size))
  have HD := Lib.hid (fun w1 (hb : Below w.heap.size w w1) => L.done_no w1 b (some ⟨g, o, none⟩) 0 1 n ((hb.block b hlt).trans h))
  have HRD := Lib.hid (fun w1 (hb : Below w.heap.size w w1) => (show L.Rd w1 b (some ⟨g, o, none⟩) 1 1 n from (hb.block b hlt).trans h))
  clear h hx
  go_enter Tryz.func125, Tryz.ntmps125
  go_wp2_with (first
    | (go_at_call 46; refine (HP.out _ ((Below.refl _ _).alloc (Nat.le_refl _) _)).mono ?_; rintro e w1 ⟨rfl, hb1⟩; have hb := hb1.alloc hb1.size (.cells #[.int .i64 t.k, .string t.s, .int .i64 t.n, .int .i64 t.p] 63); obtain ⟨hc, hf⟩ := L.bcell hb; have HB := Lib.hid (((Below.refl w.heap.size w).alloc (Nat.le_refl _) (.cells #[.int .i64 0, .string ⟨#[]⟩, .int .i64 0, .int .i64 0] 63)).trans (hb.mono (by simp))); obtain ⟨r0, r1, rf, rlt⟩ := (HRD.out _ HB.out).facts; have hz := hb1.size; simp at hz; obtain ⟨k1, j1⟩ := L.oth (w1.alloc (.cells #[.int .i64 t.k, .string t.s, .int .i64 t.n, .int .i64 t.p] 63)) b w1.heap.size (by omega) (.slice (some ⟨g, o, none⟩) 0 0); obtain ⟨k2, j2⟩ := L.oth (w1.alloc (.cells #[.int .i64 t.k, .string t.s, .int .i64 t.n, .int .i64 t.p] 63)) b w.heap.size (by omega) (.slice (some ⟨g, o, none⟩) 0 0))
    | (go_at_call 54; refine (HD.out _ HB.out).mono ?_; rintro e w' ⟨rfl, rfl⟩))
  refine bodyPost_ret (v := .agg #[.int .i64 t.k, .string t.s, .int .i64 t.n, .int .i64 t.p]) (by simp [results, Tryz.results125, go_sem, hc, k2]) rfl ⟨rfl, ?_, L.rd_four (L.rd_set (HRD.out _ HB.out)) (by omega) _ _ _ _⟩
  refine Fr.set (b := w.heap.size) ?_ _ (.inr (Nat.le_refl _))
  refine Fr.set (b := w.heap.size) ?_ _ (.inr (Nat.le_refl _))
  refine Fr.set (b := w.heap.size) ?_ _ (.inr (Nat.le_refl _))
  refine Fr.set (b := w.heap.size) ?_ _ (.inr (Nat.le_refl _))
  refine Fr.set (b := b) ?_ _ (.inl rfl)
  exact (Fr.alloc w _).trans (Fr.of_below hb)
theorem Rdr.below {B rb b : Nat} {w w' : World} {p : Option Addr} {l : List Tk} {E : Int} {dead : Bool} (h : Rdr B rb b w p l E dead) (hB : B ≤ w.heap.size) (hb0 : b < B) (hb : Below w.heap.size w w') : Rdr B rb b w' p l E dead := h.heap (hb.block _ (by omega)) fun g hg _ _ => hb.block g (by omega)
theorem peek_r {B rb b : Nat} (w : World) {p : Option Addr} {l : List Tk} {E : Int} {dead : Bool} (h : Rdr B rb b w p l E dead) (hB : B ≤ w.heap.size) :
    Calls Tryz.prog 46 #[.pointer p] w fun e w' => e = .returned (.agg (tkArr (hdT l E))) ∧ Below w.heap.size w w' := by
  rcases h with ⟨_, rfl, rfl, rfl⟩ | ⟨_, rfl, A, c, h1, h2, h3, h4⟩
  · exact L.peek_nil w
  · cases l with
    | nil => exact L.peek_end w b A c E h1
    | cons t l =>
      obtain ⟨g, o, rfl, g1, _, _, hr⟩ := h4 (by simp)
      exact peek_rd w b g o l.length c E t h1 hr.head (by omega)
theorem done_r {B rb b : Nat} (w : World) {p : Option Addr} {l : List Tk} {E : Int} {dead : Bool} (h : Rdr B rb b w p l E dead) :
    Calls Tryz.prog 54 #[.pointer p] w fun e w' => e = .returned (.bool l.isEmpty) ∧ w = w' := by
  rcases h with ⟨_, rfl, rfl, rfl⟩ | ⟨_, rfl, A, c, h1, h2, h3, h4⟩
  · exact L.done_nil w
  · cases l with
    | nil => exact L.done_end w b A c E h1
    | cons t l => exact L.done_no w b A l.length c E h1
/-- Next. -/
theorem next_r {B rb b : Nat} (w : World) {p : Option Addr} {l : List Tk} {E : Int} {dead : Bool} (h : Rdr B rb b w p l E dead) (hB : B ≤ w.heap.size) (hb0 : b < B) :
    Calls Tryz.prog 125 #[.pointer p] w fun e w' => e = .returned (.agg (tkArr (hdT l E))) ∧ Fr (fun k => k = b) w w' ∧ Rdr B rb b w' p l.tail E dead := by
  rcases h with ⟨h0, rfl, rfl, rfl⟩ | ⟨h0, rfl, A, c, h1, h2, h3, h4⟩
  · refine (L.next_nil w).mono ?_
    rintro e w' ⟨rfl, hb⟩
    exact ⟨rfl, Fr.of_below hb, .inl ⟨h0, rfl, rfl, rfl⟩⟩
  · cases l with
    | nil =>
      refine (L.next_end w b A c E h1).mono ?_
      rintro e w' ⟨rfl, hb⟩
      exact ⟨rfl, Fr.of_below hb, .inr ⟨h0, rfl, A, c, (hb.block b (by omega)).trans h1, h2, h3, fun hh => absurd rfl hh⟩⟩
    | cons t l =>
      obtain ⟨g, o, rfl, g1, g2, g3, hr⟩ := h4 (by simp)
      simp only [List.length_cons] at h1 h2 h3
      by_cases hc : c = 1
      · subst hc
        obtain rfl : l = [] := List.eq_nil_of_length_eq_zero (by have := h3.1; omega)
        refine (next_last w b g o E t h1 hr.head (by omega)).mono ?_
        rintro e w' ⟨rfl, hf, hd⟩
        exact ⟨rfl, hf, .inr ⟨h0, rfl, _, _, hd, Nat.le_refl _, ⟨Nat.zero_le _, by simp⟩, fun hh => absurd rfl hh⟩⟩
      · obtain ⟨c, rfl⟩ : ∃ c', c = c' + 1 := ⟨c - 1, by omega⟩
        refine (next_rd w b g o l.length c E t h1 hr.head (by omega) h3.1 (by omega)).mono ?_
        rintro e w' ⟨rfl, hf, hd⟩
        exact ⟨rfl, hf, .inr ⟨h0, rfl, _, _, hd, by simp; omega, ⟨by have := h3.1; simp; omega, fun t' ht' => h3.2 t' (List.mem_cons_of_mem _ ht')⟩, fun _ => ⟨g, o + 4, rfl, g1, g2, g3, hr.tail.heap (hf.block g (by omega) g3)⟩⟩⟩
set_option maxHeartbeats 1000000 in
theorem is_of (w : World) (p : Option Addr) (t : Tk) (k : Int) (x : ByteArray) (hk0 : (k == 0) = false) (hk4 : (k == 4) = false)
    (HP : Hid (∀ w1, Below w.heap.size w w1 → Calls Tryz.prog 46 #[.pointer p] w1 fun e w' => e = .returned (.agg #[.int .i64 t.k, .string t.s, .int .i64 t.n, .int .i64 t.p]) ∧ Below w1.heap.size w1 w')) :
    Calls Tryz.prog 124 #[.pointer p, .int .i64 k, .string x] w fun e w' => e = .returned (.bool (decide (t.k = k) && (t.s.toList == x.toList))) ∧ Below w.heap.size w w' := by
  by_cases h1 : t.k = k
  · have h1' : (t.k == k) = true := by simpa using h1
    have hd : decide (t.k = k) = true := by simpa using h1
    rw [hd, Bool.true_and]
    clear h1 hd
    obtain ⟨y, hy⟩ : ∃ y, (t.s.toList == x.toList) = y := ⟨_, rfl⟩
    rw [hy]
    go_enter Tryz.func124, Tryz.ntmps124
    go_wp2_with (go_at_call 46; refine (HP.out _ (Below.refl _ _)).mono ?_; rintro e w1 ⟨rfl, hb1⟩; have hb := hb1.alloc hb1.size (.cells #[.int .i64 t.k, .string t.s, .int .i64 t.n, .int .i64 t.p] 63); obtain ⟨hc, hf⟩ := L.bcell hb)
    go_ret
    exact ⟨rfl, hb⟩
  · have h1' : (t.k == k) = false := by simpa using h1
    have hd : decide (t.k = k) = false := by simpa using h1
    rw [hd, Bool.false_and]
    clear h1 hd
    go_enter Tryz.func124, Tryz.ntmps124
    go_wp2_with (go_at_call 46; refine (HP.out _ (Below.refl _ _)).mono ?_; rintro e w1 ⟨rfl, hb1⟩; have hb := hb1.alloc hb1.size (.cells #[.int .i64 t.k, .string t.s, .int .i64 t.n, .int .i64 t.p] 63); obtain ⟨hc, hf⟩ := L.bcell hb)
    go_ret
    exact ⟨rfl, hb⟩
theorem isT_hd (k : Int) (x : List UInt8) (l : List Tk) (E : Int) (hk : k ≠ 0) : isT k x l = (decide ((hdT l E).k = k) && ((hdT l E).s.toList == x)) := by
  cases l with
  | nil => simp [isT, hdT, Ne.symm hk]
  | cons t l => rfl
theorem is_r {B rb b : Nat} (w : World) {p : Option Addr} {l : List Tk} {E : Int} {dead : Bool} (h : Rdr B rb b w p l E dead) (hB : B ≤ w.heap.size) (hb0 : b < B) (k : Int) (x : ByteArray) (hk0 : k ≠ 0) (hk4 : k ≠ 4) :
    Calls Tryz.prog 124 #[.pointer p, .int .i64 k, .string x] w fun e w' => e = .returned (.bool (isT k x.toList l)) ∧ Below w.heap.size w w' := by
  rw [isT_hd k x.toList l E hk0]
  exact is_of w p (hdT l E) k x (by simpa using hk0) (by simpa using hk4) (Lib.hid fun w1 hb => peek_r w1 (h.below hB hb0 hb) (Nat.le_trans hB hb.size))
set_option maxHeartbeats 1000000 in
theorem take_of (w : World) (p : Option Addr) (k : Int) (x : ByteArray) (y : Bool) (Q : World → Prop) (b : Nat)
    (HI : Hid (Calls Tryz.prog 124 #[.pointer p, .int .i64 k, .string x] w fun e w' => e = .returned (.bool y) ∧ Below w.heap.size w w'))
    (HN : Hid (y = true → ∀ w1, Below w.heap.size w w1 → Calls Tryz.prog 125 #[.pointer p] w1 fun e w' => (∃ t : Tk, e = .returned (.agg (tkArr t))) ∧ Fr (fun k => k = b) w1 w' ∧ Q w')) (HQ : Hid (y = false → ∀ w1, Below w.heap.size w w1 → Q w1)) :
    Calls Tryz.prog 81 #[.pointer p, .int .i64 k, .string x] w fun e w' => e = .returned (.bool y) ∧ Fr (fun k => k = b) w w' ∧ Q w' := by
  cases y with
  | true =>
    have H := Lib.hid (HN.out rfl)
    clear HN HQ
    go_enter Tryz.func81, Tryz.ntmps81
    go_wp2_with (first
      | (go_at_call 124; refine HI.out.mono ?_; rintro e w1 ⟨rfl, hb1⟩; have H1 := Lib.hid hb1; clear hb1)
      | (go_at_call 125; refine (H.out _ H1.out).mono ?_; rintro e w2 ⟨⟨t, rfl⟩, hf2, hq⟩))
    go_ret
    exact ⟨rfl, (Fr.of_below H1.out).trans hf2, hq⟩
  | false =>
    have H := Lib.hid (HQ.out rfl)
    clear HN HQ
    go_enter Tryz.func81, Tryz.ntmps81
    go_wp2_with (go_at_call 124; refine HI.out.mono ?_; rintro e w1 ⟨rfl, hb1⟩)
    go_ret
    exact ⟨rfl, Fr.of_below hb1, H.out _ hb1⟩
theorem take_r {B rb b : Nat} (w : World) {p : Option Addr} {l : List Tk} {E : Int} {dead : Bool} (h : Rdr B rb b w p l E dead) (hB : B ≤ w.heap.size) (hb0 : b < B) (k : Int) (x : ByteArray) (hk0 : k ≠ 0) (hk4 : k ≠ 4) :
    Calls Tryz.prog 81 #[.pointer p, .int .i64 k, .string x] w fun e w' => e = .returned (.bool (isT k x.toList l)) ∧ Fr (fun k => k = b) w w' ∧ Rdr B rb b w' p (if isT k x.toList l = true then l.tail else l) E dead := by
  refine take_of w p k x _ _ b (Lib.hid (is_r w h hB hb0 k x hk0 hk4)) (Lib.hid fun hy w1 hb => ?_) (Lib.hid fun hy w1 hb => ?_)
  · refine (next_r w1 (h.below hB hb0 hb) (Nat.le_trans hB hb.size) hb0).mono ?_
    rintro e w' ⟨rfl, hf, hr⟩
    exact ⟨⟨_, rfl⟩, hf, by rw [if_pos hy]; exact hr⟩
  · rw [hy]
    simpa using h.below hB hb0 hb
end Go.Proofs.YtjakeidbajkdcaaGreatDoor.A
/- What the reader's own writes make of its state. -/
namespace Go.Proofs.YtjakeidbajkdcaaGreatDoor.A
open T Go.RowKit
/-- The reader's five cells. -/
def Rb (w : World) (rb : Nat) (p : Option Addr) (v : Value) (s : PS) : Prop := w.heap[rb]? = some (.cells #[.pointer p, v, .int .i64 s.d, .int .i64 s.err, .int .i64 s.place] 51 (0, 0))
section
variable {Av : Nat → Prop} {B rb b : Nat} {w w' : World} {s s' : PS} {p p' : Option Addr} {v v' : Value}
theorem Rb.nbk (h : Rb w rb p v s) : nbk w rb = v.ownBlock := by unfold A.nbk; rw [Blk_cell h 1]; rfl
theorem St.rb_ (h : St Av B rb b w s) : ∃ p v, Rb w rb p v s ∧ Rdr B rb b w p s.l s.E s.dead := by
  obtain ⟨p, v, ps, h1, h2, _⟩ := h.at_
  exact ⟨p, v, h1, h2⟩
theorem Rb.cells (h : Rb w rb p v s) : w.cell? ⟨rb, 0, none⟩ = some (.pointer p) ∧ w.cell? ⟨rb, 1, none⟩ = some v ∧ w.cell? ⟨rb, 2, none⟩ = some (.int .i64 s.d) ∧ w.cell? ⟨rb, 3, none⟩ = some (.int .i64 s.err) ∧ w.cell? ⟨rb, 4, none⟩ = some (.int .i64 s.place) :=
  ⟨Blk_cell h 0, Blk_cell h 1, Blk_cell h 2, Blk_cell h 3, Blk_cell h 4⟩
theorem Rb.frozen (h : Rb w rb p v s) (j : Nat) : w.frozen? ⟨rb, j, none⟩ = false := Blk_frozen h j
/-- Behind writes to the reader's own block. -/
theorem St.own (h : St Av B rb b w s) (hN : s'.N = s.N) (hsz : w.heap.size ≤ w'.heap.size) (hk : ∀ k, k ≠ rb → k < w.heap.size → w'.heap[k]? = w.heap[k]?) (h0 : Rb w rb p v s) (h1 : Rb w' rb p' v s') (hR : Rdr B rb b w p s.l s.E s.dead → Rdr B rb b w' p' s'.l s'.E s'.dead) : St Av B rb b w' s' := by
  have hBs := h.hB
  obtain ⟨q, u, ps, h2, h3, h4, h5⟩ := h.at_
  have e := h0.symm.trans h2
  simp only [Option.some.injEq, Obj.cells.injEq, Array.mk.injEq, List.cons.injEq, Value.pointer.injEq] at e
  obtain ⟨⟨rfl, rfl, _⟩, _⟩ := e
  have hlt : rb < B := h.hrb
  refine ⟨fun g hg => Nat.lt_of_lt_of_le (h.av g hg) hsz, h.hrb, h.hb, Nat.le_trans hBs hsz, h.ne, p', v, ps, h1, hR h3, hN ▸ h4, ⟨⟨h5.1.1.1, ?_⟩, fun x hx => ⟨(h5.1.2 x hx).1, ?_⟩⟩, h5.2⟩
  · rcases h5.1.1.2 with h0 | ⟨g, cap, cur, e1, e2, e3, e4⟩
    · exact .inl h0
    · exact .inr ⟨g, cap, cur, e1, e2, (hk g (by omega) (Array.getElem?_eq_some_iff.1 e3).1).trans e3, e4⟩
  · rcases (h5.1.2 x hx).2 with h0 | ⟨g, cap, cur, e1, e2, e3, e4⟩
    · exact .inl h0
    · exact .inr ⟨g, cap, cur, e1, e2, (hk g (by omega) (Array.getElem?_eq_some_iff.1 e3).1).trans e3, e4⟩
theorem Rdr.own (h : St Av B rb b w s) (hk : ∀ k, k ≠ rb → k < w.heap.size → w'.heap[k]? = w.heap[k]?) {q : Option Addr} {l : List Tk} {E : Int} {dead : Bool} (hR : Rdr B rb b w q l E dead) : Rdr B rb b w' q l E dead := by
  have hb := h.blt
  have hB := h.hB
  exact hR.heap (hk b (Ne.symm h.ne) hb) fun g hg hg1 _ => hk g hg1 (by omega)
theorem Kpt.own (ho : w'.os = w.os) (ht : w'.tape = w.tape) (hu : w'.output = w.output) (hsz : w.heap.size ≤ w'.heap.size) (hk : ∀ k, k ≠ rb → k < w.heap.size → w'.heap[k]? = w.heap[k]?) (h0 : Rb w rb p v s) (h1 : Rb w' rb p' v s') : Kpt rb b w w' :=
  ⟨⟨ho, ht, hu, hsz, fun k hk1 hh => hk k (fun e => hh (.inl e)) hk1⟩, .inl (h1.nbk.trans h0.nbk.symm)⟩
/-- Behind a call of the tokens' reader. -/
theorem St.rd (h : St Av B rb b w s) (h0 : Rb w rb p v s) (hf : Fr (fun k => k = b) w w') {l : List Tk} {E : Int} {dead : Bool} (hR : Rdr B rb b w' p l E dead) : St Av B rb b w' { s with l := l, E := E, dead := dead } := by
  have hB := h.hB
  have hrb := h.rlt
  obtain ⟨q, u, ps, h2, h3, h4, h5⟩ := h.at_
  have e := h0.symm.trans h2
  simp only [Option.some.injEq, Obj.cells.injEq, Array.mk.injEq, List.cons.injEq, Value.pointer.injEq] at e
  obtain ⟨⟨rfl, rfl, _⟩, _⟩ := e
  have hbB : b < B := h.hb
  refine ⟨fun g hg => Nat.lt_of_lt_of_le (h.av g hg) hf.size, h.hrb, h.hb, Nat.le_trans hB hf.size, h.ne, p, v, ps, (hf.block rb hrb h.ne).trans h2, hR, h4, ⟨⟨h5.1.1.1, ?_⟩, fun x hx => ⟨(h5.1.2 x hx).1, ?_⟩⟩, h5.2⟩
  · rcases h5.1.1.2 with h0 | ⟨g, cap, cur, e1, e2, e3, e4⟩
    · exact .inl h0
    · exact .inr ⟨g, cap, cur, e1, e2, (hf.block g (Array.getElem?_eq_some_iff.1 e3).1 (by omega)).trans e3, e4⟩
  · rcases (h5.1.2 x hx).2 with h0 | ⟨g, cap, cur, e1, e2, e3, e4⟩
    · exact .inl h0
    · exact .inr ⟨g, cap, cur, e1, e2, (hf.block g (Array.getElem?_eq_some_iff.1 e3).1 (by omega)).trans e3, e4⟩
theorem Kpt.rd (h : St Av B rb b w s) (hf : Fr (fun k => k = b) w w') : Kpt rb b w w' :=
  ⟨hf.mono fun _k hk => .inr (.inl hk), .inl (nbk_heap (hf.block rb h.rlt h.ne))⟩
end
section
variable {Av : Nat → Prop} {B rb b : Nat} {w : World} {s : PS}
/-- The embedded reader's calls. -/
theorem peek_s (h : St Av B rb b w s) {p : Option Addr} {v : Value} (hp : Rb w rb p v s) : Calls Tryz.prog 46 #[.pointer p] w fun e w' => e = .returned (.agg #[.int .i64 s.pk.k, .string s.pk.s, .int .i64 s.pk.n, .int .i64 s.pk.p]) ∧ Below w.heap.size w w' := by
  obtain ⟨q, u, h1, h2⟩ := h.rb_
  have e := hp.symm.trans h1
  simp only [Option.some.injEq, Obj.cells.injEq, Array.mk.injEq, List.cons.injEq, Value.pointer.injEq] at e
  obtain ⟨⟨rfl, rfl, _⟩, _⟩ := e
  exact peek_r w h2 h.hB
theorem next_s (h : St Av B rb b w s) {p : Option Addr} {v : Value} (hp : Rb w rb p v s) : Calls Tryz.prog 125 #[.pointer p] w fun e w' => e = .returned (.agg #[.int .i64 s.pk.k, .string s.pk.s, .int .i64 s.pk.n, .int .i64 s.pk.p]) ∧ St Av B rb b w' s.nx ∧ Kpt rb b w w' := by
  obtain ⟨q, u, h1, h2⟩ := h.rb_
  have e := hp.symm.trans h1
  simp only [Option.some.injEq, Obj.cells.injEq, Array.mk.injEq, List.cons.injEq, Value.pointer.injEq] at e
  obtain ⟨⟨rfl, rfl, _⟩, _⟩ := e
  refine (next_r w h2 h.hB h.hb).mono ?_
  rintro e w' ⟨rfl, hf, hr⟩
  exact ⟨rfl, h.rd h1 hf hr, Kpt.rd h hf⟩
theorem is_s (h : St Av B rb b w s) {p : Option Addr} {v : Value} (hp : Rb w rb p v s) (k : Int) (x : ByteArray) (hk0 : k ≠ 0) (hk4 : k ≠ 4) : Calls Tryz.prog 124 #[.pointer p, .int .i64 k, .string x] w fun e w' => e = .returned (.bool (s.is k x.toList)) ∧ Below w.heap.size w w' := by
  obtain ⟨q, u, h1, h2⟩ := h.rb_
  have e := hp.symm.trans h1
  simp only [Option.some.injEq, Obj.cells.injEq, Array.mk.injEq, List.cons.injEq, Value.pointer.injEq] at e
  obtain ⟨⟨rfl, rfl, _⟩, _⟩ := e
  exact is_r w h2 h.hB h.hb k x hk0 hk4
theorem take_s (h : St Av B rb b w s) {p : Option Addr} {v : Value} (hp : Rb w rb p v s) (k : Int) (x : ByteArray) (hk0 : k ≠ 0) (hk4 : k ≠ 4) : Calls Tryz.prog 81 #[.pointer p, .int .i64 k, .string x] w fun e w' => e = .returned (.bool (s.is k x.toList)) ∧ St Av B rb b w' (s.tk k x.toList) ∧ Kpt rb b w w' := by
  obtain ⟨q, u, h1, h2⟩ := h.rb_
  have e := hp.symm.trans h1
  simp only [Option.some.injEq, Obj.cells.injEq, Array.mk.injEq, List.cons.injEq, Value.pointer.injEq] at e
  obtain ⟨⟨rfl, rfl, _⟩, _⟩ := e
  refine (take_r w h2 h.hB h.hb k x hk0 hk4).mono ?_
  rintro e w' ⟨rfl, hf, hr⟩
  refine ⟨rfl, ?_, Kpt.rd h hf⟩
  have := h.rd h1 hf hr
  unfold PS.tk PS.is
  split at this <;> rename_i hh
  · rw [if_pos hh]; exact this
  · rw [if_neg hh]; exact this
theorem done_s (h : St Av B rb b w s) {p : Option Addr} {v : Value} (hp : Rb w rb p v s) : Calls Tryz.prog 54 #[.pointer p] w fun e w' => e = .returned (.bool s.l.isEmpty) ∧ w = w' := by
  obtain ⟨q, u, h1, h2⟩ := h.rb_
  have e := hp.symm.trans h1
  simp only [Option.some.injEq, Obj.cells.injEq, Array.mk.injEq, List.cons.injEq, Value.pointer.injEq] at e
  obtain ⟨⟨rfl, rfl, _⟩, _⟩ := e
  exact done_r w h2
end
/-- A field of a token. -/
theorem field_p (k n p : Int) (s : ByteArray) (w : World) : Sem.run Tryz.prog (Instr.field 63 (.agg #[.int .i64 k, .string s, .int .i64 n, .int .i64 p]) 3) w = .ok (.int .i64 p) w := by kernel_rfl
theorem field_s (k n p : Int) (s : ByteArray) (w : World) : Sem.run Tryz.prog (Instr.field 63 (.agg #[.int .i64 k, .string s, .int .i64 n, .int .i64 p]) 1) w = .ok (.string s) w := by kernel_rfl
theorem field_n (k n p : Int) (s : ByteArray) (w : World) : Sem.run Tryz.prog (Instr.field 63 (.agg #[.int .i64 k, .string s, .int .i64 n, .int .i64 p]) 2) w = .ok (.int .i64 n) w := by kernel_rfl
end Go.Proofs.YtjakeidbajkdcaaGreatDoor.A
/- The reader's small calls: refuse, word, sign, must, text. -/
namespace Go.Proofs.YtjakeidbajkdcaaGreatDoor.A
open T Go.RowKit
attribute [local go_sem] field_p field_s field_n
section
variable {Av : Nat → Prop} {B rb b : Nat} {w : World} {s : PS}
theorem no_set {w : World} {rb : Nat} {p : Option Addr} {v : Value} {s : PS} (h : Rb w rb p v s) (pl e : Int) (h0 : s.err = 0) :
    Rb (((w.setCell ⟨rb, 4, none⟩ (.int .i64 pl)).setCell ⟨rb, 3, none⟩ (.int .i64 e)).setCell ⟨rb, 0, none⟩ (.pointer none)) rb none v (s.no pl e) := by
  have h1 := blk_put (j := 0) (v := .pointer none) (blk_put (j := 3) (v := .int .i64 e) (blk_put (j := 4) (v := .int .i64 pl) h))
  unfold Rb PS.no
  rw [if_pos h0, if_pos h0]
  exact h1
theorem no_set2 {w : World} {rb : Nat} {p : Option Addr} {v : Value} {s : PS} (h : Rb w rb p v s) (pl e : Int) (h0 : s.err ≠ 0) : Rb (w.setCell ⟨rb, 0, none⟩ (.pointer none)) rb none v (s.no pl e) := by
  have h1 := blk_put (j := 0) (v := .pointer none) h
  unfold Rb PS.no
  rw [if_neg h0, if_neg h0]
  exact h1
set_option maxRecDepth 100000 in
set_option maxHeartbeats 1000000 in
theorem refuse_any (h : St Av B rb b w s) (pl e : Int) : Calls Tryz.prog 47 #[.pointer (some ⟨rb, 0, none⟩), .int .i64 pl, .int .i64 e] w (VPost Av B rb b w (s.no pl e)) := by
  obtain ⟨p, v, hp, hR⟩ := h.rb_
  obtain ⟨c0, c1, c2, c3, c4⟩ := hp.cells
  have f := hp.frozen
  by_cases h0 : s.err = 0
  · have hz : (s.err == 0) = true := by simpa using h0
    have H1 := Lib.hid (no_set hp pl e h0)
    have H := Lib.hid h
    have HP := Lib.hid hp
    clear h hp hR h0
    go_enter Tryz.func47, Tryz.ntmps47
    go_wp2
    go_end0
    have hk : ∀ k, k ≠ rb → k < w.heap.size → ((((w.setCell ⟨rb, 4, none⟩ (.int .i64 pl)).setCell ⟨rb, 3, none⟩ (.int .i64 e)).setCell ⟨rb, 0, none⟩ (.pointer none)).heap[k]? = w.heap[k]?) := fun k hk _ =>
      (set_far _ _ _ _ _ hk).trans ((set_far _ _ _ _ _ hk).trans (set_far _ _ _ _ _ hk))
    exact ⟨rfl, H.out.own rfl (by simp) hk HP.out H1.out fun _ => .inl ⟨rfl, rfl, rfl, rfl⟩, Kpt.own rfl rfl rfl (by simp) hk HP.out H1.out⟩
  · have hz : (s.err == 0) = false := by simpa using h0
    have H1 := Lib.hid (no_set2 hp pl e h0)
    have H := Lib.hid h
    have HP := Lib.hid hp
    clear h hp hR h0
    go_enter Tryz.func47, Tryz.ntmps47
    go_wp2
    go_end0
    have hk : ∀ k, k ≠ rb → k < w.heap.size → ((w.setCell ⟨rb, 0, none⟩ (.pointer none)).heap[k]? = w.heap[k]?) := fun k hk _ => set_far _ _ _ _ _ hk
    exact ⟨rfl, H.out.own rfl (by simp) hk HP.out H1.out fun _ => .inl ⟨rfl, rfl, rfl, rfl⟩, Kpt.own rfl rfl rfl (by simp) hk HP.out H1.out⟩
set_option maxRecDepth 100000 in
set_option maxHeartbeats 1000000 in
theorem word_any (h : St Av B rb b w s) (x : ByteArray) : Calls Tryz.prog 49 #[.pointer (some ⟨rb, 0, none⟩), .string x] w (BPost Av B rb b w (s.is 1 x.toList) (s.tk 1 x.toList)) := by
  obtain ⟨p, v, hp, hR⟩ := h.rb_
  obtain ⟨c0, c1, c2, c3, c4⟩ := hp.cells
  have HT := Lib.hid (take_s h hp 1 x (by decide) (by decide))
  clear h hp hR
  obtain ⟨y, hy⟩ : ∃ y, s.is 1 x.toList = y := ⟨_, rfl⟩
  rw [hy] at HT ⊢
  clear hy
  go_enter Tryz.func49, Tryz.ntmps49
  go_wp2_with (go_at_call 81; refine HT.out.mono ?_; rintro e w1 ⟨rfl, h1, k1⟩)
  go_ret
  exact ⟨rfl, h1, k1⟩
set_option maxRecDepth 100000 in
set_option maxHeartbeats 1000000 in
theorem sign_any (h : St Av B rb b w s) (x : ByteArray) : Calls Tryz.prog 200 #[.pointer (some ⟨rb, 0, none⟩), .string x] w (BPost Av B rb b w (s.is 7 x.toList) (s.tk 7 x.toList)) := by
  obtain ⟨p, v, hp, hR⟩ := h.rb_
  obtain ⟨c0, c1, c2, c3, c4⟩ := hp.cells
  have HT := Lib.hid (take_s h hp 7 x (by decide) (by decide))
  clear h hp hR
  obtain ⟨y, hy⟩ : ∃ y, s.is 7 x.toList = y := ⟨_, rfl⟩
  rw [hy] at HT ⊢
  clear hy
  go_enter Tryz.func200, Tryz.ntmps200
  go_wp2_with (go_at_call 81; refine HT.out.mono ?_; rintro e w1 ⟨rfl, h1, k1⟩)
  go_ret
  exact ⟨rfl, h1, k1⟩
set_option maxRecDepth 100000 in
set_option maxHeartbeats 1000000 in
theorem must_any (h : St Av B rb b w s) (k : Int) (x : ByteArray) (hk0 : k ≠ 0) (hk4 : k ≠ 4) : Calls Tryz.prog 83 #[.pointer (some ⟨rb, 0, none⟩), .int .i64 k, .string x] w (VPost Av B rb b w (s.must k x.toList)) := by
  obtain ⟨p, v, hp, hR⟩ := h.rb_
  obtain ⟨c0, c1, c2, c3, c4⟩ := hp.cells
  have HT := Lib.hid (take_s h hp k x hk0 hk4)
  have HR := Lib.hid h.rlt
  clear h hp hR hk0 hk4
  by_cases hy : s.is k x.toList = true
  · have e1 : s.must k x.toList = s.nx := by unfold PS.must; rw [if_pos hy]
    have e2 : s.tk k x.toList = s.nx := by unfold PS.tk; rw [if_pos hy]
    rw [e1]
    rw [hy, e2] at HT
    clear hy e1 e2
    go_enter Tryz.func83, Tryz.ntmps83
    go_wp2_with (go_at_call 81; refine HT.out.mono ?_; rintro e w1 ⟨rfl, h1, k1⟩)
    go_end0
    exact ⟨rfl, h1, k1⟩
  · have e1 : s.must k x.toList = s.no s.pk.p 5 := by unfold PS.must; rw [if_neg hy]
    have e2 : s.tk k x.toList = s := by unfold PS.tk; rw [if_neg hy]
    rw [e1]
    rw [Bool.eq_false_iff.2 hy, e2] at HT
    clear hy e1 e2
    go_enter Tryz.func83, Tryz.ntmps83
    go_wp2_with (first
      | (go_at_call 81; refine HT.out.mono ?_; rintro e w1 ⟨rfl, h1, k1⟩; obtain ⟨q, u, hq, _⟩ := h1.rb_; obtain ⟨d0, d1, d2, d3, d4⟩ := hq.cells; have H1 := Lib.hid h1; have K1 := Lib.hid k1; have HQ := Lib.hid hq; clear h1 k1 hq)
      | (go_at_call 46; refine (peek_s H1.out HQ.out).mono ?_; rintro e w2 ⟨rfl, hb2⟩; have H2 := Lib.hid (H1.out.below hb2); have K2 := Lib.hid (K1.out.trans (Kpt.of_below H1.out.rlt hb2)); clear hb2)
      | (go_at_call 47; refine (refuse_any H2.out _ 5).mono ?_; rintro e w3 ⟨rfl, h3, k3⟩))
    go_end0
    exact ⟨rfl, h3, K2.out.trans k3⟩
end
end Go.Proofs.YtjakeidbajkdcaaGreatDoor.A
/- The reader's calls: text, end; whether one of some signs, an atom, is next. -/
namespace Go.Proofs.YtjakeidbajkdcaaGreatDoor.A
open T Go.RowKit
attribute [local go_sem] field_p field_s field_n
section
variable {Av : Nat → Prop} {B rb b : Nat} {w w' : World} {s : PS} {p : Option Addr} {v : Value}
theorem St.pksz (h : St Av B rb b w s) : s.pk.s.size ≤ 281474976710656 := by
  obtain ⟨p, v, _, hR⟩ := h.rb_
  rw [pk_eq]
  rcases hR with ⟨_, _, h1, _⟩ | ⟨_, _, A, c, _, _, h3, _⟩
  · rw [h1]; exact Nat.zero_le _
  · cases hl : s.l with
    | nil => exact Nat.zero_le _
    | cons t l => exact h3.2 t (by rw [hl]; simp)
theorem Rb.below (h : Rb w rb p v s) (hb : Below w.heap.size w w') : Rb w' rb p v s := (hb.block rb (Array.getElem?_eq_some_iff.1 h).1).trans h
set_option maxRecDepth 100000 in
set_option maxHeartbeats 1000000 in
theorem text_any (h : St Av B rb b w s) (k : Int) : Calls Tryz.prog 82 #[.pointer (some ⟨rb, 0, none⟩), .int .i64 k] w (SPost Av B rb b w (s.txt k).1 (s.txt k).2) := by
  obtain ⟨p, v, hp, hR⟩ := h.rb_
  obtain ⟨c0, c1, c2, c3, c4⟩ := hp.cells
  have hlt := h.rlt
  have HPK := Lib.hid (peek_s h hp)
  have HP := Lib.hid hp
  have H := Lib.hid h
  have HS := Lib.hid h.pksz
  clear h hp hR
  by_cases hk : s.pk.k = k
  · have e1 : s.txt k = (s.pk.s, s.nx) := by unfold PS.txt; rw [if_pos hk]
    rw [e1]
    clear e1
    have hk' : (s.pk.k != k) = false := by simpa using hk
    clear hk
    go_enter Tryz.func82, Tryz.ntmps82
    go_wp2_with (first
      | (go_at_call 46; refine HPK.out.mono ?_; rintro e w1 ⟨rfl, hb1⟩; have hb := hb1.alloc hb1.size (.cells #[.int .i64 s.pk.k, .string s.pk.s, .int .i64 s.pk.n, .int .i64 s.pk.p] 63); obtain ⟨hc, hf⟩ := L.bcell hb; have H1 := Lib.hid (H.out.below hb); have HP1 := Lib.hid (HP.out.below hb); have K1 := Lib.hid (Kpt.of_below (b := b) hlt hb); clear hb hb1)
      | (go_at_call 125; refine (next_s H1.out HP1.out).mono ?_; rintro e w2 ⟨rfl, h2, k2⟩; have H2 := Lib.hid h2; have K2 := Lib.hid (K1.out.trans k2); clear h2 k2)
      | (go_at_call 38; refine (T.clone_any _ HS.out _).mono ?_; rintro e w3 ⟨rfl, hb3⟩))
    go_ret
    exact ⟨rfl, H2.out.below hb3, K2.out.trans (Kpt.of_below H2.out.rlt hb3)⟩
  · have e1 : s.txt k = (⟨#[]⟩, s.no s.pk.p 5) := by unfold PS.txt; rw [if_neg hk]
    rw [e1]
    clear e1
    have hk' : (s.pk.k != k) = true := by simpa using hk
    clear hk
    go_enter Tryz.func82, Tryz.ntmps82
    go_wp2_with (first
      | (go_at_call 46; refine HPK.out.mono ?_; rintro e w1 ⟨rfl, hb1⟩; have hb := hb1.alloc hb1.size (.cells #[.int .i64 s.pk.k, .string s.pk.s, .int .i64 s.pk.n, .int .i64 s.pk.p] 63); obtain ⟨hc, hf⟩ := L.bcell hb; have H1 := Lib.hid (H.out.below hb); have K1 := Lib.hid (Kpt.of_below (b := b) hlt hb); clear hb hb1)
      | (go_at_call 47; refine (refuse_any H1.out _ 5).mono ?_; rintro e w3 ⟨rfl, h3, k3⟩))
    go_ret
    exact ⟨rfl, h3, K1.out.trans k3⟩
/-- The state behind the text. -/
def PS.fin (s : PS) : PS := if s.l.isEmpty = true then s else s.no s.pk.p 5
set_option maxRecDepth 100000 in
set_option maxHeartbeats 1000000 in
theorem end_any (h : St Av B rb b w s) : Calls Tryz.prog 27 #[.pointer (some ⟨rb, 0, none⟩)] w (VPost Av B rb b w s.fin) := by
  obtain ⟨p, v, hp, hR⟩ := h.rb_
  obtain ⟨c0, c1, c2, c3, c4⟩ := hp.cells
  have HD := Lib.hid (done_s h hp)
  have HPK := Lib.hid (peek_s h hp)
  have H := Lib.hid h
  have hlt := h.rlt
  clear h hp hR
  by_cases hy : s.l.isEmpty = true
  · have e1 : s.fin = s := by unfold PS.fin; rw [if_pos hy]
    rw [e1]
    rw [hy] at HD
    clear hy e1
    go_enter Tryz.func27, Tryz.ntmps27
    go_wp2_with (go_at_call 54; refine HD.out.mono ?_; rintro e w1 ⟨rfl, rfl⟩)
    go_end0
    exact ⟨rfl, H.out, Kpt.refl _ _ _⟩
  · have e1 : s.fin = s.no s.pk.p 5 := by unfold PS.fin; rw [if_neg hy]
    rw [e1]
    rw [Bool.eq_false_iff.2 hy] at HD
    clear hy e1
    go_enter Tryz.func27, Tryz.ntmps27
    go_wp2_with (first
      | (go_at_call 54; refine HD.out.mono ?_; rintro e w1 ⟨rfl, rfl⟩)
      | (go_at_call 46; refine HPK.out.mono ?_; rintro e w2 ⟨rfl, hb2⟩; have H2 := Lib.hid (H.out.below hb2); have K2 := Lib.hid (Kpt.of_below (b := b) hlt hb2); clear hb2)
      | (go_at_call 47; refine (refuse_any H2.out _ 5).mono ?_; rintro e w3 ⟨rfl, h3, k3⟩))
    go_end0
    exact ⟨rfl, h3, K2.out.trans k3⟩
set_option maxRecDepth 100000 in
/-- Whether a sign is next, as a function's value: its box holds the reader. -/
theorem isSign1_any (h : St Av B rb b w s) (bx : Nat) (hbx : w.cell? ⟨bx, 0, none⟩ = some (.pointer (some ⟨rb, 0, none⟩))) (x : ByteArray) :
    Calls Tryz.prog 128 #[.string x, .pointer (some ⟨bx, 0, none⟩)] w fun e w' => e = .returned (.bool (s.is 7 x.toList)) ∧ Below w.heap.size w w' := by
  obtain ⟨p, v, hp, hR⟩ := h.rb_
  obtain ⟨c0, c1, c2, c3, c4⟩ := hp.cells
  have HI := Lib.hid (is_s h hp 7 x (by decide) (by decide))
  clear h hp hR
  obtain ⟨y, hy⟩ : ∃ y, s.is 7 x.toList = y := ⟨_, rfl⟩
  rw [hy] at HI ⊢
  clear hy
  go_enter Tryz.func128, Tryz.ntmps128
  go_wp2_with (go_at_call 124; refine HI.out.mono ?_; rintro e w1 ⟨rfl, hb1⟩)
  go_ret
  exact ⟨rfl, hb1⟩
end
end Go.Proofs.YtjakeidbajkdcaaGreatDoor.A
/- Whether one of some signs is next, whether an atom begins, the primitive of a sign. -/
namespace Go.Proofs.YtjakeidbajkdcaaGreatDoor.A
open T Go.RowKit
attribute [local go_sem] field_p field_s field_n
/-- Texts from an address on. -/
def TxRow (w : World) (g o : Nat) (l : List ByteArray) : Prop := ∀ j x, l[j]? = some x → w.cell? ⟨g, o + j, none⟩ = some (.string x)
set_option maxRecDepth 100000 in
set_option maxHeartbeats 4000000 in
theorem idxs_any (P : ByteArray → Bool) (l : List ByteArray) (L c g o bx : Nat) (w : World) (HL : Hid (l.length = L)) (hL : L ≤ 1000) (hg : g < w.heap.size) (HR : Hid (TxRow w g o l))
    (HF : Hid (∀ w1 x, Below w.heap.size w w1 → Calls Tryz.prog 128 #[.string x, .pointer (some ⟨bx, 0, none⟩)] w1 fun e w' => e = .returned (.bool (P x)) ∧ Below w1.heap.size w1 w')) :
    Calls Tryz.prog 161 #[.slice (some ⟨g, o, none⟩) L c, .func (.func 128) #[] #[.pointer (some ⟨bx, 0, none⟩)]] w (FxPost (l.any P) w) := by
  go_enter Tryz.func161, Tryz.ntmps161
  go_wp2
  go_loopw [8] (fun i wr => ∃ q : Nat, i = .int .i64 (q : Int) ∧ q ≤ L ∧ Hid ((l.take q).any P = false) ∧ Hid (Below w.heap.size w wr)) (fun i _ => L - (intOf i).toNat)
  case atStart => exact ⟨0, rfl, Nat.zero_le _, Lib.hid (by simp), Lib.hid (Below.refl _ _)⟩
  case round =>
    obtain ⟨q, rfl, hq, HC, HB⟩ := hrel
    have hsz := HB.out.size
    by_cases hlt : q < L
    · obtain ⟨x, hx⟩ : ∃ x, l[q]? = some x := ⟨_, List.getElem?_eq_getElem (by rw [HL.out]; exact hlt)⟩
      have hcx := (HB.out.cell (p := ⟨g, o + q, none⟩) hg).trans (HR.out q x hx)
      cases hp : P x with
      | true =>
        have HY := Lib.hid (any_yes P l q x hx hp)
        have HP := Lib.hid hp
        clear hx hp
        go_wp2_with (go_at_call 128; refine (HF.out _ x HB.out).mono ?_; rintro e w1 ⟨rfl, hb1⟩; rw [HP.out]; have HBB := Lib.hid hb1; clear hb1)
        go_ret
        exact ⟨⟨_, rfl, by rw [HY.out]; simp⟩, HB.out.trans (HBB.out.mono hsz)⟩
      | false =>
        have HY := Lib.hid (any_no P l q x hx HC.out hp)
        have HP := Lib.hid hp
        clear hx hp
        go_wp2_with (go_at_call 128; refine (HF.out _ x HB.out).mono ?_; rintro e w1 ⟨rfl, hb1⟩; rw [HP.out]; have HBB := Lib.hid hb1; clear hb1)
        go_roundw
        case rel => exact ⟨q + 1, by go_num, by omega, HY, Lib.hid (HB.out.trans (HBB.out.mono hsz))⟩
        case measure => simp [intOf]; omega
    · obtain rfl : q = L := by omega
      go_wp2
      go_ret
      exact ⟨⟨_, rfl, by have := HC.out; rw [List.take_of_length_le (by rw [HL.out]; omega)] at this; rw [this]; rfl⟩, HB.out⟩
set_option maxRecDepth 100000 in
theorem conts_any (P : ByteArray → Bool) (l : List ByteArray) (L c g o bx : Nat) (w : World) (t : Bool) (ht : l.any P = t) (HL : Hid (l.length = L)) (hL : L ≤ 1000) (hg : g < w.heap.size) (HR : Hid (TxRow w g o l))
    (HF : Hid (∀ w1 x, Below w.heap.size w w1 → Calls Tryz.prog 128 #[.string x, .pointer (some ⟨bx, 0, none⟩)] w1 fun e w' => e = .returned (.bool (P x)) ∧ Below w1.heap.size w1 w')) :
    Calls Tryz.prog 127 #[.slice (some ⟨g, o, none⟩) L c, .func (.func 128) #[] #[.pointer (some ⟨bx, 0, none⟩)]] w fun e w' => e = .returned (.bool t) ∧ Below w.heap.size w w' := by
  have HC := Lib.hid (idxs_any P l L c g o bx w HL hL hg HR HF)
  rw [ht] at HC
  clear ht
  go_enter Tryz.func127, Tryz.ntmps127
  go_wp2_with (go_at_call 161; refine HC.out.mono ?_; rintro e w1 ⟨⟨r, rfl, hr⟩, hb1⟩)
  go_ret
  exact ⟨ret_b (by first | exact hr | simp), hb1⟩
section
variable {Av : Nat → Prop} {B rb b : Nat} {w w' : World} {s : PS} {p : Option Addr} {v : Value}
set_option maxRecDepth 100000 in
set_option maxHeartbeats 1000000 in
theorem isSign_any (h : St Av B rb b w s) (l : List ByteArray) (L c g o : Nat) (t : Bool) (ht : (l.any fun x => s.is 7 x.toList) = t) (hl : l.length = L) (hL : L ≤ 1000) (hg : g < w.heap.size) (hr : TxRow w g o l) :
    Calls Tryz.prog 86 #[.pointer (some ⟨rb, 0, none⟩), .slice (some ⟨g, o, none⟩) L c] w fun e w' => e = .returned (.bool t) ∧ Below w.heap.size w w' := by
  have hal : Below w.heap.size w (w.alloc (.cells #[.pointer (some ⟨rb, 0, none⟩)] 83)) := (Below.refl _ w).alloc (Nat.le_refl _) _
  have HC := Lib.hid (conts_any (fun x => s.is 7 x.toList) l L c g o w.heap.size (w.alloc (.cells #[.pointer (some ⟨rb, 0, none⟩)] 83)) t ht (Lib.hid hl) hL (by simp; omega) (Lib.hid fun j x hj => (hal.cell (p := ⟨g, o + j, none⟩) hg).trans (hr j x hj))
    (Lib.hid fun w1 x hb => isSign1_any ((h.below hal).below hb) w.heap.size ((hb.cell (p := ⟨w.heap.size, 0, none⟩) (by simp)).trans (Blk_cell (World.alloc_heap_new w _) 0)) x))
  have HAL := Lib.hid hal
  clear h ht hl hr hal
  go_enter Tryz.func86, Tryz.ntmps86
  go_wp2_with (go_at_call 127; refine HC.out.mono ?_; rintro e w1 ⟨rfl, hb1⟩)
  go_ret
  exact ⟨rfl, HAL.out.trans (hb1.mono (by simp))⟩
theorem tx_two (w : World) (t : TypeId) (x y : ByteArray) (g : Nat) (hg : g = w.heap.size) : TxRow (w.alloc (.cells #[.string x, .string y] t)) g 0 [x, y] := by
  subst hg
  intro j z hj
  have h := World.alloc_heap_new w (.cells #[.string x, .string y] t)
  rw [Blk_cell h]
  match j, hj with
  | 0, hj => cases hj; rfl
  | 1, hj => cases hj; rfl
theorem tx_three (w : World) (t : TypeId) (x y z : ByteArray) (g : Nat) (hg : g = w.heap.size) : TxRow (w.alloc (.cells #[.string x, .string y, .string z] t)) g 0 [x, y, z] := by
  subst hg
  intro j u hj
  have h := World.alloc_heap_new w (.cells #[.string x, .string y, .string z] t)
  rw [Blk_cell h]
  match j, hj with
  | 0, hj => cases hj; rfl
  | 1, hj => cases hj; rfl
  | 2, hj => cases hj; rfl
end
set_option maxRecDepth 100000 in
set_option maxHeartbeats 1000000 in
theorem prim_any (x : ByteArray) (w : World) : Calls Tryz.prog 129 #[.string x] w fun e w' => e = .returned (.int .i64 (prim x)) ∧ w = w' := by
  have key : ∀ l : List UInt8, x.toList = l → (x.toList == l) = true := fun l h => by simpa using h
  have nay : ∀ l : List UInt8, x.toList ≠ l → (x.toList == l) = false := fun l h => by simpa using h
  unfold prim
  by_cases h1 : x.toList = [60]
  · rw [if_pos h1]
    have a1 := key _ h1
    clear key nay h1
    go_enter Tryz.func129, Tryz.ntmps129
    go_wp2
    go_ret
    exact ⟨rfl, rfl⟩
  rw [if_neg h1]
  have a1 := nay _ h1
  by_cases h2 : x.toList = [61, 61]
  · rw [if_pos h2]
    have a2 := key _ h2
    clear key nay h1 h2
    go_enter Tryz.func129, Tryz.ntmps129
    go_wp2
    go_ret
    exact ⟨rfl, rfl⟩
  rw [if_neg h2]
  have a2 := nay _ h2
  by_cases h3 : x.toList = [43]
  · rw [if_pos h3]
    have a3 := key _ h3
    clear key nay h1 h2 h3
    go_enter Tryz.func129, Tryz.ntmps129
    go_wp2
    go_ret
    exact ⟨rfl, rfl⟩
  rw [if_neg h3]
  have a3 := nay _ h3
  by_cases h4 : x.toList = [45]
  · rw [if_pos h4]
    have a4 := key _ h4
    clear key nay h1 h2 h3 h4
    go_enter Tryz.func129, Tryz.ntmps129
    go_wp2
    go_ret
    exact ⟨rfl, rfl⟩
  rw [if_neg h4]
  have a4 := nay _ h4
  by_cases h5 : x.toList = [94]
  · rw [if_pos h5]
    have a5 := key _ h5
    clear key nay h1 h2 h3 h4 h5
    go_enter Tryz.func129, Tryz.ntmps129
    go_wp2
    go_ret
    exact ⟨rfl, rfl⟩
  rw [if_neg h5]
  have a5 := nay _ h5
  by_cases h6 : x.toList = [42]
  · rw [if_pos h6]
    have a6 := key _ h6
    clear key nay h1 h2 h3 h4 h5 h6
    go_enter Tryz.func129, Tryz.ntmps129
    go_wp2
    go_ret
    exact ⟨rfl, rfl⟩
  rw [if_neg h6]
  have a6 := nay _ h6
  by_cases h7 : x.toList = [47]
  · rw [if_pos h7]
    have a7 := key _ h7
    clear key nay h1 h2 h3 h4 h5 h6 h7
    go_enter Tryz.func129, Tryz.ntmps129
    go_wp2
    go_ret
    exact ⟨rfl, rfl⟩
  rw [if_neg h7]
  have a7 := nay _ h7
  clear key nay h1 h2 h3 h4 h5 h6 h7
  go_enter Tryz.func129, Tryz.ntmps129
  go_wp2
  go_ret
  exact ⟨rfl, rfl⟩
end Go.Proofs.YtjakeidbajkdcaaGreatDoor.A
