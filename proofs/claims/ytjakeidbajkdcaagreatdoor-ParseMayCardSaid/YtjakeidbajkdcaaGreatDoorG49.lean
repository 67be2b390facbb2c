/- Joined by program: ANew, AParse, CSame, CEx, CWorks, CMay. -/
import Derived.Test.YtjakeidbajkdcaaGreatDoorG46
import Derived.Test.YtjakeidbajkdcaaGreatDoorG47
import Derived.Test.YtjakeidbajkdcaaGreatDoorG44
import Derived.Test.YtjakeidbajkdcaaGreatDoorG36
import Derived.Test.YtjakeidbajkdcaaGreatDoorG48
import Derived.Test.YtjakeidbajkdcaaGreatDoorG45
import Derived.Test.YtjakeidbajkdcaaGreatDoorG25
import Derived.Test.YtjakeidbajkdcaaGreatDoorG20
import Derived.KernelRfl
import Derived.RegionTactic
/- A reader of a text's tokens, and of programs, as they are made. -/
namespace Go.Proofs.YtjakeidbajkdcaaGreatDoor.A
open T Go.RowKit L
/-- Tokens without their errors. -/
def tkOf (x : L.Item) : Tk := ⟨x.1.k, x.1.t, x.1.n, x.2⟩
def tks (s : ByteArray) : List Tk := (toks s).map tkOf
/-- What New answers. -/
def NewPost (l : List L.Item) (n : Int) (w : World) (e : Ending) (w' : World) : Prop := ∃ b A c, e = .returned (.pointer (some ⟨b, 0, none⟩)) ∧ Rd w' b A l.length c n ∧ l.length ≤ c ∧ (l ≠ [] → ∃ g, A = some ⟨g, 0, none⟩ ∧ HoldsT w' g l ∧ w.heap.size ≤ g ∧ g < b) ∧ w.heap.size ≤ b ∧ Below w.heap.size w w'
set_option maxRecDepth 100000 in
theorem new0 (w : World) (n : Int) : Calls Tryz.prog 25 #[.slice none 0 0, .int .i64 n] w (NewPost [] n w) := by
  go_enter Tryz.func25, Tryz.ntmps25
  go_wp2_with (go_at_call 45; refine (clone_nil _).mono ?_; rintro e w1 ⟨rfl, rfl⟩)
  go_ret
  exact ⟨_, none, 0, rfl, Blk.new _ 82 _, Nat.zero_le _, fun h => absurd rfl h, Nat.le_refl _, (Below.refl _ _).alloc (Nat.le_refl _) _⟩
set_option maxRecDepth 100000 in
set_option maxHeartbeats 1000000 in
theorem newz (w : World) (a : Addr) (c : Nat) (n : Int) (ha : a.block < w.heap.size) : Calls Tryz.prog 25 #[.slice (some a) 0 c, .int .i64 n] w (NewPost [] n w) := by
  have HCl := Lib.hid (clone_pos w a 0 c [] (Lib.hid rfl) (by omega) ha (Lib.hid (fun j u h => by simp at h)) (Lib.hid (fun u h => by simp at h)))
  go_enter Tryz.func25, Tryz.ntmps25
  go_wp2_with (go_at_call 45; refine HCl.out.mono ?_; rintro e w1 ⟨v, rfl, hrow, hb, _⟩; obtain ⟨A, c', rfl⟩ := row_form hrow; have HB := Lib.hid hb; clear hrow hb)
  go_ret
  exact ⟨_, A, c', rfl, Blk.new w1 82 _, Nat.zero_le _, fun h => absurd rfl h, HB.out.size, HB.out.alloc HB.out.size _⟩
theorem new_any {B : Nat} (w : World) (l : List L.Item) (v : Value) (n : Int) (hL : l.length ≤ 1000000) (hv : w.ownsRow B 63 4 v l.length (cellsL l)) : Calls Tryz.prog 25 #[v, .int .i64 n] w (NewPost l n w) := by
  rcases hv.2 with ⟨rfl, hn⟩ | ⟨g, cap, cur, rfl, h1, h2, h3, h4⟩
  · have : l = [] := List.length_eq_zero_iff.1 hn
    subst this
    exact new0 w n
  · have hg := (Array.getElem?_eq_some_iff.1 h2).1
    by_cases h0 : l = []
    · subst h0; exact newz w ⟨g, 0, none⟩ cap n hg
    · have hp : 0 < l.length := List.length_pos_iff.2 h0
      refine (new_pos w ⟨g, 0, none⟩ l l.length cap n (Lib.hid rfl) hp hL hg (Lib.hid fun j u hj => World.ownsRow.cells hv (g := g) rfl _ _ hj)).mono ?_
      rintro e w' ⟨b, g', c', rfl, k1, k2, k3, k4, k5, k6⟩
      exact ⟨b, _, c', rfl, k1, k2, fun _ => ⟨g', rfl, k3, k4, k5⟩, by omega, k6⟩
/-- The reader of programs, made. -/
theorem made {l : List L.Item} {n : Int} {w W : World} {b c : Nat} {A : Option Addr} (hR : Rd W b A l.length c n) (hc : l.length ≤ c) (hg : l ≠ [] → ∃ g, A = some ⟨g, 0, none⟩ ∧ HoldsT W g l ∧ w.heap.size ≤ g ∧ g < b) (hL : l.length ≤ 1000000) (ht : ∀ x ∈ l, x.1.t.size ≤ 281474976710656) :
    St (fun _ => False) (W.heap.size + 1) W.heap.size b (W.alloc (.cells #[.pointer (some ⟨b, 0, none⟩), .slice none 0 0, .int .i64 0, .int .i64 0, .int .i64 0] 51)) ⟨l.map tkOf, n, false, 0, 0, [], 0⟩ := by
  have hb := hR.facts.2.2.2
  refine ⟨fun g h => h.elim, by omega, by omega, by simp, by omega, some ⟨b, 0, none⟩, .slice none 0 0, [], World.alloc_heap_new W _, ?_, rfl, ownN_nil _ _, fun x hx => by cases hx⟩
  refine .inr ⟨rfl, rfl, A, c, (Below.heap_alloc _ _ _ hb).trans ?_, by simpa using hc, ⟨by simpa using hL, fun t h => ?_⟩, fun h => ?_⟩
  · rw [List.length_map]; exact hR
  · obtain ⟨x, hx, rfl⟩ := List.mem_map.1 h; exact ht x hx
  · obtain ⟨g, rfl, h1, h2, h3⟩ := hg (by intro e; subst e; exact h rfl)
    refine ⟨g, 0, rfl, by omega, by omega, by omega, fun j t hj => ?_⟩
    obtain ⟨x, hx, rfl⟩ := List.getElem?_map .. ▸ hj |> Option.map_eq_some_iff.1
    have hgl : g < W.heap.size := by omega
    have e : ∀ k, (W.alloc (.cells #[.pointer (some ⟨b, 0, none⟩), .slice none 0 0, .int .i64 0, .int .i64 0, .int .i64 0] 51)).cell? ⟨g, k, none⟩ = W.cell? ⟨g, k, none⟩ := fun k => World.cell?_of_block (a := ⟨g, k, none⟩) (Below.heap_alloc _ _ _ hgl)
    obtain ⟨a0, a1, a2, a3⟩ := h1 j x hx
    simp only [Nat.zero_add]
    exact ⟨(e _).trans a0, (e _).trans a1, (e _).trans a2, (e _).trans a3⟩
end Go.Proofs.YtjakeidbajkdcaaGreatDoor.A
/- Parse: the program of the whole text. -/
namespace Go.Proofs.YtjakeidbajkdcaaGreatDoor.A
open T Go.RowKit L
/-- What a text is read as: its tree, a place, an error. -/
noncomputable def asked (s : ByteArray) : List Nd × Int × Int := if err s = 0 then told (whole (place s) (tks s)) else ([], place s, err s)
theorem own_low {B B' : Nat} {W : World} {v : Value} {ps : List (Nd × Value)} (h : OwnN B' W v ps) (hB : B ≤ B') : OwnN B W v ps := ⟨row_mono h.1 hB, fun x hx => row_mono (h.2 x hx) hB⟩
theorem clon_small {x : Nd} (h : Clonable x) : Small x := ⟨by have := h.1; omega, by have := h.2.1; omega, h.2.2.1, fun f hf => by have := h.2.2.2 f hf; omega⟩
theorem kpt_below {rb b B : Nat} {w w' : World} (h : Kpt rb b w w') (hr : B ≤ rb) (hb : B ≤ b) (hn : ∀ k, nbk w rb = some k → B ≤ k) (hB : B ≤ w.heap.size) : Below B w w' :=
  h.fr.below (fun k hk => hk.elim (fun e => e ▸ hr) fun hk => hk.elim (fun e => e ▸ hb) (hn k)) hB
/-- The state in which all was read. -/
theorem read_all {l : List Tk} {E : Int} (hl : l.length ≤ 200000) (ht : ∀ t ∈ l, t.s.size ≤ 281474976710656) : ∃ a s1, exprP 101 ⟨l, E, false, 0, 0, [], 0⟩ = some (a, s1) ∧
    ((∃ e p, told (whole E l) = ([], p, e) ∧ s1.fin.err = e ∧ s1.fin.place = p ∧ e ≠ 0) ∨ (s1.fin.err = 0 ∧ told (whole E l) = (if mayE s1.fin.N = 0 then s1.fin.N else [], 0, mayE s1.fin.N) ∧ (∀ x ∈ s1.fin.N, Clonable x) ∧ s1.fin.N.length ≤ 1000000)) := by
  have h : Sim [] ⟨l, E, false, 0, 0, [], 0⟩ (fi ⟨l, E, false, 0, 0, [], 0⟩ + 4) (ex E l) (exprP 101 ⟨l, E, false, 0, 0, [], 0⟩) := (rows_all (need .expr l.length)).expr 101 0 ⟨l, E, false, 0, 0, [], 0⟩ ⟨rfl, rfl⟩ rfl (by omega) (by omega) (by simp [fi]; omega) (Nat.le_refl _)
  have hcl : ∀ a s1, exprP 101 ⟨l, E, false, 0, 0, [], 0⟩ = some (a, s1) → ∀ x ∈ s1.N, Clonable x := fun a s1 hx x hm => (expr_c 101 _ _ ⟨ht, fun x hx => by cases hx⟩ hx).2 x hm
  cases hx : ex E l with
  | ok t r =>
    have h2 := h
    rw [hx] at h2
    simp only [Sim] at h2
    obtain ⟨k1, k2, k3, k4, k5⟩ := ex_ok hx
    rw [lay_nil k1] at h2
    refine ⟨_, _, h2, ?_⟩
    have hs := hcl _ _ h2
    cases r with
    | nil =>
      refine .inr ⟨rfl, ?_, hs, by show t.length ≤ _; omega⟩
      show told (whole E l) = (if mayE t = 0 then t else [], 0, mayE t)
      unfold whole
      rw [hx]
      unfold told mayE
      simp only
      by_cases hf : far t = true
      · simp [hf]
      · simp only [hf]
        by_cases hm : may t = 0 <;> simp [hm]
    | cons y r =>
      refine .inl ⟨5, y.p, ?_, rfl, rfl, by decide⟩
      unfold whole
      rw [hx]
      rfl
  | bad e p =>
    have h2 := h
    rw [hx] at h2
    simp only [Sim] at h2
    obtain ⟨a, s1, e1, hd, _, _⟩ := h2
    refine ⟨a, s1, e1, .inl ⟨e, p, ?_, ?_, ?_, hd.2.2.2.2.2⟩⟩
    · unfold whole; rw [hx]; rfl
    · unfold PS.fin; rw [hd.2.1]; exact hd.2.2.2.1
    · unfold PS.fin; rw [hd.2.1]; exact hd.2.2.2.2.1
theorem res8 (tmps : Array Value) (W : World) (p : Nat) (A : Option Addr) (n c : Nat) (z er : Int) (h2 : tmps[2]?.getD undef = .pointer (some ⟨p, 0, none⟩)) (h3 : tmps[3]?.getD undef = .int .i64 z) (h4 : tmps[4]?.getD undef = .int .i64 er) (hb : W.cell? ⟨p, 0, none⟩ = some (.slice A n c)) :
    Sem.run Tryz.prog (results Tryz.f8 tmps) W = .ok (.tuple #[.agg #[.slice A n c], .int .i64 z, .int .i64 er]) W := by
  simp [results, Tryz.results8, go_sem, h2, h3, h4, hb]
/-- What Parse answers. -/
def ParsePost (r : List Nd × Int × Int) (w : World) (e : Ending) (w' : World) : Prop := PPost w.heap.size r.1 r.2.1 r.2.2 w e w'
set_option maxRecDepth 100000 in
set_option maxHeartbeats 4000000 in
theorem parse_bad (s : ByteArray) (hs : s.size ≤ 200000) (w : World) (hO : On w.heap.size w) (he : err s ≠ 0) : Calls Tryz.prog 8 #[.string s] w (ParsePost ([], place s, err s) w) := by
  have hb0 : Below w.heap.size w (w.alloc (.cells #[.slice none 0 0] 25)) := (Below.refl _ w).alloc (Nat.le_refl _) _
  have HA := Lib.hid (all_any s (by omega) (w.alloc (.cells #[.slice none 0 0] 25)) ((hO.on hb0).up hb0.size))
  have HB := Lib.hid hb0
  have hz : (err s != 0) = true := by simpa using he
  clear hb0 hO he
  go_enter Tryz.func8, Tryz.ntmps8
  go_wp2_with (go_at_call 24; refine HA.out.mono ?_; rintro e w1 ⟨v, rfl, hrow, hb1⟩; obtain ⟨A, cp, rfl⟩ := row_form hrow; have k0 := (hb1.cell (p := ⟨w.heap.size, 0, none⟩) (by simp)).trans (Blk_cell (World.alloc_heap_new w (.cells #[.slice none 0 0] 25)) 0); have k2 : w1.frozen? ⟨w.heap.size, 0, none⟩ = false := (hb1.frozen (p := ⟨w.heap.size, 0, none⟩) (by simp)).trans (Blk_frozen (World.alloc_heap_new w (.cells #[.slice none 0 0] 25)) 0); have HX := Lib.hid hb1; clear hb1 hrow)
  exact bodyPost_ret (res8 _ _ w.heap.size none 0 0 _ _ rfl rfl rfl (by go_simp)) rfl ⟨_, [], rfl, rfl, ownN_nil _ _, (HB.out.trans (HX.out.mono (by simp))).setCell (p := ⟨w.heap.size, 0, none⟩) (Nat.le_refl _) _⟩
theorem own_set {B r0 j : Nat} {W : World} {v u : Value} {ps : List (Nd × Value)} (h : OwnN B W v ps) (hr : r0 < B) : OwnN B (W.setCell ⟨r0, j, none⟩ u) v ps := by
  refine ⟨⟨h.1.1, ?_⟩, fun x hx => ⟨(h.2 x hx).1, ?_⟩⟩
  · rcases h.1.2 with e0 | ⟨g, cap, cur, e1, e2, e3, e4⟩
    · exact .inl e0
    · exact .inr ⟨g, cap, cur, e1, e2, (set_far _ _ _ _ _ (by omega)).trans e3, e4⟩
  · rcases (h.2 x hx).2 with e0 | ⟨g, cap, cur, e1, e2, e3, e4⟩
    · exact .inl e0
    · exact .inr ⟨g, cap, cur, e1, e2, (set_far _ _ _ _ _ (by omega)).trans e3, e4⟩
/-- What stands once the program is told: its tree is the call's own, the cell of the result as it was. -/
theorem kpt_blk {rb b k : Nat} {w w' : World} {cs : Array Value} {t : TypeId} (h : Kpt rb b w w') (hk : w.heap[k]? = some (.cells cs t (0, 0))) (hr : k ≠ rb) (hb : k ≠ b) (hn : nbk w rb ≠ some k) : w'.heap[k]? = some (.cells cs t (0, 0)) :=
  (h.fr.block k (Array.getElem?_eq_some_iff.1 hk).1 fun hh => hh.elim hr fun hh => hh.elim hb hn).trans hk
/-- Where the reader stands between its calls: the result's cell is as it was made. -/
structure Stage (w W : World) (rb b : Nat) (s : PS) : Prop where
  st : St (fun _ => False) (rb + 1) rb b W s
  r0 : W.heap[w.heap.size]? = some (.cells #[.slice none 0 0] 25 (0, 0))
  bl : Below w.heap.size w W
  hb : w.heap.size < b
  hr : w.heap.size < rb
theorem Stage.next {w W W' : World} {rb b : Nat} {s s' : PS} (h : Stage w W rb b s) (h' : St (fun _ => False) (rb + 1) rb b W' s') (k : Kpt rb b W W') : Stage w W' rb b s' := by
  have h1 := h.hb; have h2 := h.hr
  have hn : ∀ k, nbk W rb = some k → rb + 1 ≤ k := fun k hk => (h.st.nbB k hk).1
  have hw := h.bl.size
  exact ⟨h', kpt_blk k h.r0 (by omega) (by omega) (fun e => by have := hn _ e; omega), h.bl.trans (kpt_below k (by omega) (by omega) (fun k hk => by have := hn _ hk; omega) hw), h1, h2⟩
/-- What the program is told as, of all that was read. -/
theorem prog_told {w W : World} {rb b : Nat} {s1 : PS} {r : List Nd × Int × Int} (hK : Kws w.heap.size w) (h : Stage w W rb b s1)
    (he : (∃ e p, r = ([], p, e) ∧ s1.err = e ∧ s1.place = p ∧ e ≠ 0) ∨ (s1.err = 0 ∧ r = (if mayE s1.N = 0 then s1.N else [], 0, mayE s1.N) ∧ (∀ x ∈ s1.N, Clonable x) ∧ s1.N.length ≤ 1000000)) :
    Calls Tryz.prog 28 #[.pointer (some ⟨rb, 0, none⟩)] W (PPost (rb + 1) r.1 r.2.1 r.2.2 W) := by
  rcases he with ⟨e, p, rfl, rfl, rfl, h0⟩ | ⟨h0, rfl, h1, h2⟩
  · exact prog_bad h.st h0
  · exact prog_good h.st h0 (Kws_mono (hK.on h.bl) h.bl.size) (fun x hx => clon_small (h1 x hx)) h2
theorem stage0 {w w1 w2 : World} {l : List L.Item} {n : Int} {b c : Nat} {A : Option Addr} (h0 : Below w.heap.size w (w.alloc (.cells #[.slice none 0 0] 25))) (h1 : Below (w.alloc (.cells #[.slice none 0 0] 25)).heap.size (w.alloc (.cells #[.slice none 0 0] 25)) w1) (h2 : Below w1.heap.size w1 w2)
    (hR : Rd w2 b A l.length c n) (hc : l.length ≤ c) (hg : l ≠ [] → ∃ g, A = some ⟨g, 0, none⟩ ∧ HoldsT w2 g l ∧ w1.heap.size ≤ g ∧ g < b) (hb : w1.heap.size ≤ b) (hL : l.length ≤ 200000) (ht : ∀ x ∈ l, x.1.t.size ≤ 281474976710656) :
    Stage w (w2.alloc (.cells #[.pointer (some ⟨b, 0, none⟩), .slice none 0 0, .int .i64 0, .int .i64 0, .int .i64 0] 51)) w2.heap.size b ⟨l.map tkOf, n, false, 0, 0, [], 0⟩ := by
  have e1 := h1.size
  have e2 := h2.size
  have e3 : (w.alloc (.cells #[.slice none 0 0] 25)).heap.size = w.heap.size + 1 := by simp
  refine ⟨made (w := w1) hR hc hg (by omega) ht, ?_, ?_, by omega, by omega⟩
  · rw [Below.heap_alloc _ _ _ (by omega), h2.block _ (by omega), h1.block _ (by omega)]
    exact World.alloc_heap_new w _
  · exact (h0.trans ((h1.mono (by omega)).trans (h2.mono (by omega)))).alloc (by omega) _
set_option maxRecDepth 100000 in
set_option maxHeartbeats 8000000 in
theorem parse_good (s : ByteArray) (hs : s.size ≤ 200000) (w : World) (hO : On w.heap.size w) (hK : Kws w.heap.size w) (he : err s = 0) : Calls Tryz.prog 8 #[.string s] w (ParsePost (told (whole (place s) (tks s))) w) := by
  have hb0 : Below w.heap.size w (w.alloc (.cells #[.slice none 0 0] 25)) := (Below.refl _ w).alloc (Nat.le_refl _) _
  have HA := Lib.hid (all_any s (by omega) (w.alloc (.cells #[.slice none 0 0] 25)) ((hO.on hb0).up hb0.size))
  have HB := Lib.hid hb0
  have hz : (err s != 0) = false := by simpa using he
  have HL : Hid ((toks s).length ≤ 200000) := Lib.hid (Nat.le_trans (toks_len s) hs)
  have HT : Hid (∀ x ∈ toks s, x.1.t.size ≤ 281474976710656) := Lib.hid fun x hx => by have := (toks_facts s x hx).1; omega
  have HKw := Lib.hid hK
  obtain ⟨a, s1, hx, hend⟩ := read_all (l := tks s) (E := place s) (by rw [tks, List.length_map]; exact HL.out) (fun t ht => by obtain ⟨x, hx, rfl⟩ := List.mem_map.1 ht; exact HT.out x hx)
  have HX := Lib.hid hx
  have HE := Lib.hid hend
  clear hb0 hO he hx hend hK
  go_enter Tryz.func8, Tryz.ntmps8
  go_wp2_with (first
    | (go_at_call 24; refine HA.out.mono ?_; rintro e w1 ⟨v, rfl, hrow, hb1⟩; obtain ⟨A, cp, rfl⟩ := row_form hrow; have HR := Lib.hid hrow; have H1 := Lib.hid hb1; clear hb1 hrow)
    | (go_at_call 25; refine (new_any w1 (toks s) _ _ (by have := HL.out; omega) HR.out).mono ?_; rintro e w2 ⟨b, A2, c2, rfl, n1, n2, n3, n4, hb2⟩; have N1 := Lib.hid n1; have N3 := Lib.hid n3; have HS := Lib.hid (stage0 HB.out H1.out hb2 n1 n2 n3 n4 HL.out HT.out); clear n1 n2 n3 n4 hb2 H1 HR)
    | (go_at_call 26; refine (expr_any 101 _ _ _ _ HS.out.st HX.out).mono ?_; rintro e w4 ⟨rfl, h4, k4⟩; have HS4 := Lib.hid (HS.out.next h4 k4); clear h4 k4)
    | (go_at_call 27; refine (end_any HS4.out.st).mono ?_; rintro e w5 ⟨rfl, h5, k5⟩; have HS5 := Lib.hid (HS4.out.next h5 k5); clear h5 k5)
    | (go_at_call 28; refine (prog_told HKw.out HS5.out HE.out).mono ?_; rintro e w6 ⟨v6, ps, rfl, h1, h2, h3⟩; obtain ⟨A6, c6, rfl⟩ := row_form h2.1; have f0 : w6.heap[w.heap.size]? = some (.cells #[.slice none 0 0] 25 (0, 0)) := (h3.block _ (Array.getElem?_eq_some_iff.1 HS5.out.r0).1).trans HS5.out.r0; have f1 := Blk_cell f0 0; have f2 := Blk_frozen f0 0; have HF := Lib.hid h1; have HO6 := Lib.hid h2; have HB6 := Lib.hid h3; clear h1 h2 h3))
  have hr := HS5.out.hr
  exact bodyPost_ret (res8 _ _ w.heap.size A6 _ c6 _ _ rfl rfl rfl (by go_simp)) rfl ⟨_, ps, rfl, HF.out, own_low (own_set HO6.out (by omega)) (by omega), ((HS5.out.bl.trans (HB6.out.mono HS5.out.bl.size))).setCell (p := ⟨w.heap.size, 0, none⟩) (Nat.le_refl _) _⟩
theorem parse_any (s : ByteArray) (hs : s.size ≤ 200000) (w : World) (hO : On w.heap.size w) (hK : Kws w.heap.size w) : Calls Tryz.prog 8 #[.string s] w (ParsePost (asked s) w) := by
  by_cases he : err s = 0
  · rw [asked, if_pos he]; exact parse_good s hs w hO hK he
  · rw [asked, if_neg he]; exact parse_bad s hs w hO he
/-- What Parse answers: a tree that may be and is in order, or no tree, an error and a place in the text. -/
theorem asked_any (s : ByteArray) (hs : s.size ≤ 200000) : (∃ t, asked s = (t, 0, 0) ∧ may t = 0 ∧ nrm t = t ∧ t.length ≤ 2 * s.size ∧ slim t ∧ ∀ x ∈ t, Clonable x) ∨ ∃ p e, asked s = ([], p, e) ∧ e ≠ 0 ∧ 0 ≤ p ∧ p ≤ s.size := by
  have hL := toks_len s
  have hpl := place_facts s
  unfold asked
  by_cases he : err s = 0
  · rw [if_pos he]
    have hl : (tks s).length ≤ 200000 := by rw [tks, List.length_map]; omega
    have htk : ∀ t ∈ tks s, t.s.size ≤ 281474976710656 := fun t ht => by
      obtain ⟨x, hx, rfl⟩ := List.mem_map.1 ht
      have := (toks_facts s x hx).1
      show x.1.t.size ≤ _; omega
    rcases told_any (place s) (tks s) with ⟨t, h1, h2, h3, h4, h5⟩ | ⟨p, e, h1, h2, h3⟩
    · refine .inl ⟨t, h1, h2, h3, by rw [tks, List.length_map] at h4; omega, h5, ?_⟩
      obtain ⟨a, s1, _, hh⟩ := read_all (l := tks s) (E := place s) hl htk
      rw [h1] at hh
      rcases hh with ⟨e, p, e1, _, _, e2⟩ | ⟨_, e1, e2, _⟩
      · injection e1 with _ e1; injection e1 with _ e1; exact absurd e1.symm e2
      · injection e1 with e3 e4
        injection e4 with _ e4
        rw [if_pos e4.symm] at e3
        rw [e3]; exact e2
    · refine .inr ⟨p, e, h1, h2, ?_⟩
      rcases h3 with rfl | rfl | ⟨t, ht, rfl⟩
      · omega
      · exact hpl
      · obtain ⟨x, hx, rfl⟩ := List.mem_map.1 ht
        have := (toks_facts s x hx).2
        show (0 : Int) ≤ (x.2 : Int) ∧ (x.2 : Int) ≤ _
        omega
  · rw [if_neg he]; exact .inr ⟨_, _, rfl, he, hpl⟩
end Go.Proofs.YtjakeidbajkdcaaGreatDoor.A
/- The law's same: a tree is the same as itself, places too. -/
namespace Go.Proofs.YtjakeidbajkdcaaGreatDoor.A
open T Go.RowKit
theorem fe_self (f : Fld) : fe f f = true := by simp [fe]
theorem sn_self (x : Nd) : sn x x = true := by
  have h : les x.l x.l = true := les_yes (fun j f g h1 h2 => by rw [h1] at h2; cases h2; exact fe_self f) rfl
  simp [sn, lf, h]
theorem ln_self (l : List Nd) : ln l l = true := by
  rw [ln, lns_yes (fun j x y h1 h2 => by rw [h1] at h2; cases h2; exact sn_self x) rfl]; simp
set_option maxRecDepth 100000 in
set_option maxHeartbeats 4000000 in
theorem same_self (l : List Nd) (v u : Value) (w : World) (hv : Nodes w.heap.size w v l) (hu : Nodes w.heap.size w u l) (hL : l.length ≤ 1000000) (hS1 : ∀ x ∈ l, x.l.length ≤ 1000000) :
    Calls Tryz.prog 10 #[.agg #[v], .agg #[u]] w fun e w' => e = .returned (.bool true) ∧ Below w.heap.size w w' := by
  obtain ⟨W2, hW2⟩ : ∃ W2, (w.alloc (.cells #[v] 25)).alloc (.cells #[u] 25) = W2 := ⟨_, rfl⟩
  have hB2 : Below w.heap.size w W2 := by rw [← hW2]; exact ((Below.refl _ w).alloc (Nat.le_refl _) _).alloc (by simp) _
  have hX0 : W2.heap[w.heap.size]? = some (.cells #[v] 25 (0, 0)) := by rw [← hW2]; exact nextAt (newAt rfl)
  have hY0 : W2.heap[w.heap.size + 1]? = some (.cells #[u] 25 (0, 0)) := by rw [← hW2]; exact newAt (by simp)
  have HR := Lib.hid (rlist_any l l v u W2 ((hv.below hB2).mono hB2.size) ((hu.below hB2).mono hB2.size) hL hS1)
  rw [ln_self] at HR
  rw [← hW2] at HR
  obtain ⟨A, c1, rfl, _, _, hq⟩ := hv
  obtain ⟨C, c2, rfl, _, _, hr⟩ := hu
  obtain ⟨L, hl⟩ : ∃ L, l.length = L := ⟨_, rfl⟩
  rw [hl] at hq hr hL hX0 hY0 hW2 HR ⊢
  have HQ := Lib.hid hq
  have HP := Lib.hid hr
  have HL := Lib.hid hl
  have hsz : w.heap.size + 1 < W2.heap.size := (Array.getElem?_eq_some_iff.1 hY0).1
  have HB := Lib.hid hB2
  have HX := Lib.hid hX0
  have HY := Lib.hid hY0
  have HW2 := Lib.hid hW2
  clear hq hr hl hB2 hX0 hY0 hS1 hW2
  go_enter Tryz.func10, Tryz.ntmps10
  go_wp2_with (go_at_call 33; refine HR.out.mono ?_; rintro e w1 ⟨rfl, hb⟩; rw [HW2.out] at hb; have HBB := Lib.hid hb; clear hb)
  go_loopw [5] (fun i wr => ∃ q : Nat, i = .int .i64 (q : Int) ∧ q ≤ L ∧ Hid (Below W2.heap.size W2 wr)) (fun i _ => L - (intOf i).toNat)
  case atStart => exact ⟨0, rfl, Nat.zero_le _, HBB⟩
  case round =>
    obtain ⟨q, rfl, hq, HBR⟩ := hrel
    have cx : wr.cell? ⟨w.heap.size, 0, none⟩ = some (.slice A L c1) := (HBR.out.cell (p := ⟨w.heap.size, 0, none⟩) (by simp; omega)).trans (Blk_cell HX.out 0)
    have cy : wr.cell? ⟨w.heap.size + 1, 0, none⟩ = some (.slice C L c2) := (HBR.out.cell (p := ⟨w.heap.size + 1, 0, none⟩) (by simp; omega)).trans (Blk_cell HY.out 0)
    have HBW : Hid (Below w.heap.size w wr) := Lib.hid (HB.out.trans (HBR.out.mono HB.out.size))
    have hwz := HBR.out.size
    by_cases hlt : q < L
    · obtain ⟨b1, o1, rfl, hb1, hf1⟩ := HQ.out (by omega)
      obtain ⟨b2, o2, rfl, hb2, hf2⟩ := HP.out (by omega)
      obtain ⟨x, hx⟩ : ∃ x, l[q]? = some x := ⟨_, List.getElem?_eq_getElem (by rw [HL.out]; exact hlt)⟩
      obtain ⟨fv, hfl, m0, m1, m2, m3, m4, m5, m6, m7, m8⟩ := (hf1 q x hx).below HBW.out hb1
      obtain ⟨gv, hgl, n0, n1, n2, n3, n4, n5, n6, n7, n8⟩ := (hf2 q x hx).below HBW.out hb2
      clear hfl hgl hf1 hf2 hx
      go_wp2
      go_quiet (fail)
      go_wp2
      go_roundw
      case rel => exact ⟨q + 1, by go_num, by omega, Lib.hid (HBR.out.trans (below_drewN _ _ nq))⟩
      case measure => simp [intOf]; omega
    · obtain rfl : q = L := by omega
      go_wp2
      go_ret
      exact ⟨rfl, HBW.out⟩
end Go.Proofs.YtjakeidbajkdcaaGreatDoor.A
/- The law's example: what it is read as. -/
namespace Go.Proofs.YtjakeidbajkdcaaGreatDoor.A
open T Go.RowKit
def exS : ByteArray := ⟨#[102, 117, 110, 32, 120, 32, 45, 62, 32, 120, 32, 43, 32, 49]⟩
def exI : List L.Item := [(⟨1, ⟨#[102, 117, 110]⟩, 0, 3, 0⟩, 0), (⟨2, ⟨#[120]⟩, 0, 1, 0⟩, 4), (⟨7, ⟨#[45, 62]⟩, 0, 2, 0⟩, 6), (⟨2, ⟨#[120]⟩, 0, 1, 0⟩, 9), (⟨7, ⟨#[43]⟩, 0, 1, 0⟩, 11), (⟨4, ⟨#[]⟩, 1, 1, 0⟩, 13)]
theorem ex_items : L.items exS = exI := by kernel_rfl
theorem ex_all : L.toks exS = exI ∧ L.place exS = 14 ∧ L.err exS = 0 := L.no_wrong (s := exS) ex_items.symm (by decide)
def exT : List Nd := [{ mk 4 9 with nm := ⟨#[120]⟩ }, { mk 1 13 with n := 1 }, { mk 10 11 with n := 1, a := 0, b := 1 }, { mk 5 0 with nm := ⟨#[120]⟩, a := 2 }]
theorem ex_tree : whole 14 (exI.map tkOf) = .ok exT [] := by kernel_rfl
theorem ex_cases {i : Nat} {x : Nd} (h : exT[i]? = some x) : (i = 0 ∧ x = { mk 4 9 with nm := ⟨#[120]⟩ }) ∨ (i = 1 ∧ x = { mk 1 13 with n := 1 }) ∨ (i = 2 ∧ x = { mk 10 11 with n := 1, a := 0, b := 1 }) ∨ (i = 3 ∧ x = { mk 5 0 with nm := ⟨#[120]⟩, a := 2 }) := by
  match i, h with
  | 0, h => exact .inl ⟨rfl, by simpa [exT] using h.symm⟩
  | 1, h => exact .inr (.inl ⟨rfl, by simpa [exT] using h.symm⟩)
  | 2, h => exact .inr (.inr (.inl ⟨rfl, by simpa [exT] using h.symm⟩))
  | 3, h => exact .inr (.inr (.inr ⟨rfl, by simpa [exT] using h.symm⟩))
  | n + 4, h => simp [exT] at h
theorem ex_formed : formed exT := by
  refine ⟨?_, ?_, ⟨?_, ?_⟩, ?_⟩
  · intro x hx
    obtain ⟨i, hi⟩ := List.getElem?_of_mem hx
    rcases ex_cases hi with ⟨_, rfl⟩ | ⟨_, rfl⟩ | ⟨_, rfl⟩ | ⟨_, rfl⟩ <;> kernel_rfl
  · intro i x h
    rcases ex_cases h with ⟨rfl, rfl⟩ | ⟨rfl, rfl⟩ | ⟨rfl, rfl⟩ | ⟨rfl, rfl⟩ <;> (intro m hm; revert m; decide)
  · have : allKids exT = [0, 1, 2] := rfl
    rw [this]; decide
  · intro j hj
    have : allKids exT = [0, 1, 2] := rfl
    have hl : exT.length = 4 := rfl
    rw [this]
    rw [hl] at hj
    obtain rfl | rfl | rfl : j = 0 ∨ j = 1 ∨ j = 2 := by omega
    · decide
    · decide
    · decide
  · intro i x h
    rcases ex_cases h with ⟨rfl, rfl⟩ | ⟨rfl, rfl⟩ | ⟨rfl, rfl⟩ | ⟨rfl, rfl⟩ <;> (intro hk; exact absurd hk (by decide))
theorem ex_may : may exT = 0 := by
  unfold may
  rw [if_neg (by decide), if_neg (not_not_intro ex_formed), if_neg (by rw [show root exT = 3 from rfl]; decide)]
theorem ex_asked : asked exS = (exT, 0, 0) := by
  obtain ⟨h1, h2, h3⟩ := ex_all
  unfold asked tks
  rw [if_pos h3, h1, h2, ex_tree]
  unfold told
  simp only
  rw [if_neg (by decide), if_pos ex_may]
end Go.Proofs.YtjakeidbajkdcaaGreatDoor.A
/- The law's works: true. -/
namespace Go.Proofs.YtjakeidbajkdcaaGreatDoor.A
open T Go.RowKit
/-- The example's tree lies so. -/
theorem ex_at {w : World} {v : Value} {ps : List (Nd × Value)} {B : Nat} (h : ps.map Prod.fst = exT) (ho : OwnN B w v ps) : ∃ g c, v = .slice (some ⟨g, 0, none⟩) 4 c ∧ g < w.heap.size ∧ w.cell? ⟨g, 0, none⟩ = some (.int .i64 4) ∧ w.cell? ⟨g, 18, none⟩ = some (.int .i64 10) ∧ w.cell? ⟨g, 27, none⟩ = some (.int .i64 5) := by
  have hn := own_nodes ho
  rw [h] at hn
  obtain ⟨A, c, rfl, _, _, hq⟩ := hn
  obtain ⟨b, o, rfl, hb, hf⟩ := hq (by decide)
  have ho0 : o = 0 := by
    rcases ho.1.2 with ⟨e, _⟩ | ⟨g, cap, cur, e, _⟩
    · cases e
    · injection e with e _ _; injection e with e; injection e
  subst ho0
  obtain ⟨_, _, a0, _⟩ := hf 0 _ rfl
  obtain ⟨_, _, a2, _⟩ := hf 2 _ rfl
  obtain ⟨_, _, a3, _⟩ := hf 3 _ rfl
  exact ⟨b, c, rfl, hb, a0, a2, a3⟩
set_option maxRecDepth 100000 in
set_option maxHeartbeats 4000000 in
theorem works_any (w : World) (hO : L.On w.heap.size w) : Calls Tryz.prog 11 #[] w fun e w' => e = .returned (.bool true) ∧ Below w.heap.size w w' := by
  have HP : Hid (Calls Tryz.prog 8 #[.string ⟨#[102, 117, 110, 32, 120, 32, 45, 62, 32, 120, 32, 43, 32, 49]⟩] w fun e w' => ∃ g c, e = .returned (.tuple #[.agg #[.slice (some ⟨g, 0, none⟩) 4 c], .int .i64 0, .int .i64 0]) ∧ g < w'.heap.size ∧ w'.cell? ⟨g, 0, none⟩ = some (.int .i64 4) ∧ w'.cell? ⟨g, 18, none⟩ = some (.int .i64 10) ∧ w'.cell? ⟨g, 27, none⟩ = some (.int .i64 5) ∧ Below w.heap.size w w') := Lib.hid (by
    refine (parse_any exS (by decide) w hO hO.1).mono ?_
    rintro e w' ⟨v, ps, rfl, h1, h2, h3⟩
    rw [ex_asked] at h1 ⊢
    obtain ⟨g, c, rfl, k1, k2, k3, k4⟩ := ex_at h1 h2
    exact ⟨g, c, rfl, k1, k2, k3, k4, h3⟩)
  clear hO
  go_enter Tryz.func11, Tryz.ntmps11
  go_wp2_with (go_at_call 8; refine HP.out.mono ?_; rintro e w1 ⟨g, c, rfl, hg, c0, c2, c3, hb⟩; have HB := Lib.hid hb; have d0 := ((Below.refl _ w1).alloc (Nat.le_refl _) (.cells #[.slice (some ⟨g, 0, none⟩) 4 c] 25)).cell (p := ⟨g, 0, none⟩) hg |>.trans c0; have d2 := ((Below.refl _ w1).alloc (Nat.le_refl _) (.cells #[.slice (some ⟨g, 0, none⟩) 4 c] 25)).cell (p := ⟨g, 18, none⟩) hg |>.trans c2; have d3 := ((Below.refl _ w1).alloc (Nat.le_refl _) (.cells #[.slice (some ⟨g, 0, none⟩) 4 c] 25)).cell (p := ⟨g, 27, none⟩) hg |>.trans c3; clear hb)
  go_ret
  exact ⟨rfl, HB.out.alloc HB.out.size _⟩
end Go.Proofs.YtjakeidbajkdcaaGreatDoor.A
/- The law ParseMay: true, of any text. -/
namespace Go.Proofs.YtjakeidbajkdcaaGreatDoor.A
open T Go.RowKit
set_option maxRecDepth 100000 in
theorem short_any {s t : ByteArray} (ht : s.extract 0 (min (s.size : Int) 1500).toNat = t) (hs : s.size ≤ 140737488351232) (w : World) : Calls Tryz.prog 7 #[.string s] w fun e w' => e = .returned (.string t) ∧ w = w' := by
  subst ht
  go_enter Tryz.func7, Tryz.ntmps7
  go_wp2
  go_ret
  exact ⟨rfl, rfl⟩
set_option maxRecDepth 100000 in
set_option maxHeartbeats 4000000 in
theorem may_bad (s t : ByteArray) (hs : s.size ≤ 140737488351232) (ht : s.extract 0 (min (s.size : Int) 1500).toNat = t) (hts : t.size ≤ 1500) (W : World) (hO : Hid (L.On W.heap.size W)) (p e : Int) (ha : asked t = ([], p, e)) (he : e ≠ 0) (hp : 0 ≤ p) (hq : p ≤ t.size) :
    Calls Tryz.prog 4 #[.string s] W fun x w' => x = .returned (.bool true) ∧ Below W.heap.size W w' := by
  have HS := Lib.hid hs
  have HT := Lib.hid ht
  have HP : Hid (∀ w1, Below W.heap.size W w1 → Calls Tryz.prog 8 #[.string t] w1 fun x w' => ∃ c A, x = .returned (.tuple #[.agg #[.slice A 0 c], .int .i64 p, .int .i64 e]) ∧ Below w1.heap.size w1 w') := Lib.hid fun w1 hb => by
    have ho := (hO.out.on hb).up hb.size
    refine (parse_any t (by omega) w1 ho ho.1).mono ?_
    rintro x w' ⟨v, ps, rfl, h1, h2, h3⟩
    rw [ha] at h1 ⊢
    have : ps = [] := List.map_eq_nil_iff.1 h1
    subst this
    obtain ⟨A, c, rfl⟩ := L.row_form h2.1
    exact ⟨c, A, rfl, h3⟩
  have hz : (e != 0) = true := by simpa using he
  have hd1 : decide (0 ≤ p) = true := decide_eq_true hp
  have hd2 : decide (p ≤ (t.size : Int)) = true := decide_eq_true hq
  clear ha he ht hs
  go_enter Tryz.func4, Tryz.ntmps4
  go_wp2_with (first
    | (go_at_call 11; refine (works_any W hO.out).mono ?_; rintro x w1 ⟨rfl, hb1⟩; have H1 := Lib.hid hb1; clear hb1)
    | (go_at_call 7; refine (short_any HT.out HS.out _).mono ?_; rintro x w' ⟨rfl, rfl⟩)
    | (go_at_call 8; refine (HP.out _ H1.out).mono ?_; rintro x w2 ⟨c, A, rfl, hb2⟩; have H2 := Lib.hid (H1.out.trans (hb2.mono H1.out.size)); clear hb2))
  go_ret
  exact ⟨rfl, H2.out.alloc H2.out.size _⟩
set_option maxRecDepth 100000 in
set_option maxHeartbeats 4000000 in
theorem may_good (s t : ByteArray) (hs : s.size ≤ 140737488351232) (ht : s.extract 0 (min (s.size : Int) 1500).toNat = t) (hts : t.size ≤ 1500) (W : World) (hO : Hid (L.On W.heap.size W)) (T : List Nd) (ha : asked t = (T, 0, 0)) (hm : may T = 0) (hn : nrm T = T) (hl : T.length ≤ 1000000) (hsl : slim T) (hc : ∀ x ∈ T, Clonable x) :
    Calls Tryz.prog 4 #[.string s] W fun x w' => x = .returned (.bool true) ∧ Below W.heap.size W w' := by
  obtain ⟨n, hTn⟩ : ∃ n, T.length = n := ⟨_, rfl⟩
  have HS := Lib.hid hs
  have HT := Lib.hid ht
  have HP : Hid (∀ w1, Below W.heap.size W w1 → Calls Tryz.prog 8 #[.string t] w1 fun x w' => ∃ v c, x = .returned (.tuple #[.agg #[.slice v n c], .int .i64 0, .int .i64 0]) ∧ Nodes w'.heap.size w' (.slice v n c) T ∧ Below w1.heap.size w1 w') := Lib.hid fun w1 hb => by
    have ho := (hO.out.on hb).up hb.size
    refine (parse_any t (by omega) w1 ho ho.1).mono ?_
    rintro x w' ⟨v, ps, rfl, h1, h2, h3⟩
    rw [ha] at h1 ⊢
    have hh := own_nodes h2
    have hlp := congrArg List.length h1
    rw [List.length_map] at hlp
    obtain ⟨A, c, rfl⟩ := L.row_form h2.1
    rw [h1] at hh
    rw [show ps.length = n by rw [← hTn]; exact hlp] at hh ⊢
    exact ⟨A, c, rfl, hh, h3⟩
  have HN : Hid (∀ w1 v, Below W.heap.size W w1 → Nodes w1.heap.size w1 v T → Calls Tryz.prog 12 #[.agg #[v]] w1 fun x w' => ∃ u c, x = .returned (.tuple #[.agg #[.slice u n c], .int .i64 0]) ∧ Nodes w'.heap.size w' (.slice u n c) T ∧ Below w1.heap.size w1 w') := Lib.hid fun w1 v hb hv => by
    refine (norm_any T v w1 (Kws_mono (hO.out.1.on hb) hb.size) hv (fun x hx => clon_small (hc x hx)) hc hl).mono ?_
    rintro x w' ⟨u, ps, rfl, h1, h2, h3⟩
    rw [hm]
    have hh := own_nodes h2
    rw [hn] at h1
    have hlp := congrArg List.length h1
    rw [List.length_map] at hlp
    obtain ⟨A, c, rfl⟩ := L.row_form h2.1
    rw [h1] at hh
    rw [show ps.length = n by rw [← hTn]; exact hlp] at hh ⊢
    exact ⟨A, c, rfl, hh, h3⟩
  have HM : Hid (∀ w1 v, Below W.heap.size W w1 → Nodes w1.heap.size w1 v T → Calls Tryz.prog 13 #[.agg #[v]] w1 fun x w' => x = .returned (.int .i64 0) ∧ Below w1.heap.size w1 w') := Lib.hid fun w1 v hb hv => by
    have := may_any T v w1 (Kws_mono (hO.out.1.on hb) hb.size) hv (fun x hx => clon_small (hc x hx))
    rw [hm] at this; exact this
  have HE : Hid (∀ w1 v u, Nodes w1.heap.size w1 v T → Nodes w1.heap.size w1 u T → Calls Tryz.prog 10 #[.agg #[v], .agg #[u]] w1 fun x w' => x = .returned (.bool true) ∧ Below w1.heap.size w1 w') := Lib.hid fun w1 v u hv hu => same_self T v u w1 hv hu hl fun x hx => by have := hsl x hx; omega
  clear ha ht hs hm hn hsl hc hTn
  go_enter Tryz.func4, Tryz.ntmps4
  go_wp2_with (first
    | (go_at_call 11; refine (works_any W hO.out).mono ?_; rintro x w1 ⟨rfl, hb1⟩; have H1 := Lib.hid hb1; clear hb1)
    | (go_at_call 7; refine (short_any HT.out HS.out _).mono ?_; rintro x w' ⟨rfl, rfl⟩)
    | (go_at_call 8; refine (HP.out _ H1.out).mono ?_; rintro x w2 ⟨A, c, rfl, hv, hb2⟩; have H2 := Lib.hid (H1.out.trans (hb2.mono H1.out.size)); have N2 := Lib.hid hv; have B3 := Lib.hid (H2.out.alloc H2.out.size (.cells #[.slice A n c] 25)); have N3 := Lib.hid ((hv.below ((Below.refl _ w2).alloc (Nat.le_refl _) (.cells #[.slice A n c] 25))).mono (((Below.refl _ w2).alloc (Nat.le_refl _) (.cells #[.slice A n c] 25)).size)); clear hb2 hv)
    | (go_at_call 12; refine (HN.out _ _ B3.out N3.out).mono ?_; rintro x w4 ⟨C, cc, rfl, hu, hb4⟩; have ce := (hb4.cell (p := ⟨w2.heap.size, 0, none⟩) (by simp)).trans (Blk_cell (World.alloc_heap_new w2 (.cells #[.slice A n c] 25)) 0); have B4 := Lib.hid (B3.out.trans (hb4.mono B3.out.size)); have N4 := Lib.hid ((N3.out.below hb4).mono hb4.size); have U4 := Lib.hid hu; have hlt4 : w2.heap.size < w4.heap.size := (Nat.lt_of_lt_of_le (by simp) hb4.size); have B5 := Lib.hid (B4.out.alloc B4.out.size (.cells #[.slice C n cc] 25)); have ce5 := ((Below.refl _ w4).alloc (Nat.le_refl _) (.cells #[.slice C n cc] 25)).cell (p := ⟨w2.heap.size, 0, none⟩) hlt4 |>.trans ce; have N5 := Lib.hid ((N4.out.below ((Below.refl _ w4).alloc (Nat.le_refl _) (.cells #[.slice C n cc] 25))).mono (((Below.refl _ w4).alloc (Nat.le_refl _) (.cells #[.slice C n cc] 25)).size)); have U5 := Lib.hid ((U4.out.below ((Below.refl _ w4).alloc (Nat.le_refl _) (.cells #[.slice C n cc] 25))).mono (((Below.refl _ w4).alloc (Nat.le_refl _) (.cells #[.slice C n cc] 25)).size)); clear hb4 hu)
    | (go_at_call 13; refine (HM.out _ _ B5.out N5.out).mono ?_; rintro x w6 ⟨rfl, hb6⟩; have B6 := Lib.hid (B5.out.trans (hb6.mono B5.out.size)); have c1 := (hb6.cell (p := ⟨w2.heap.size, 0, none⟩) (by simp; omega)).trans ce5; have c2 := (hb6.cell (p := ⟨w4.heap.size, 0, none⟩) (by simp)).trans (Blk_cell (World.alloc_heap_new w4 (.cells #[.slice C n cc] 25)) 0); have N6 := Lib.hid ((N5.out.below hb6).mono hb6.size); have U6 := Lib.hid ((U5.out.below hb6).mono hb6.size); clear hb6)
    | (go_at_call 10; refine (HE.out _ _ _ U6.out N6.out).mono ?_; rintro x w7 ⟨rfl, hb7⟩; have B7 := Lib.hid (B6.out.trans (hb7.mono B6.out.size)); clear hb7))
  go_ret
  exact ⟨rfl, B7.out⟩
theorem parsemay_any (s : ByteArray) (hs : s.size ≤ 140737488351232) (W : World) (hO : L.On W.heap.size W) :
    Calls Tryz.prog 4 #[.string s] W fun x w' => x = .returned (.bool true) ∧ Below W.heap.size W w' := by
  obtain ⟨t, ht⟩ : ∃ t, s.extract 0 (min (s.size : Int) 1500).toNat = t := ⟨_, rfl⟩
  have hts : t.size ≤ 1500 := by rw [← ht, L.size_extract]; omega
  rcases asked_any t (by omega) with ⟨T, h1, h2, h3, h4, h5, h6⟩ | ⟨p, e, h1, h2, h3, h4⟩
  · exact may_good s t hs ht hts W (Lib.hid hO) T h1 h2 h3 (by omega) h5 h6
  · exact may_bad s t hs ht hts W (Lib.hid hO) p e h1 h2 h3 h4
end Go.Proofs.YtjakeidbajkdcaaGreatDoor.A
