/- Joined by program: SReach. -/
import Derived.Test.YteikpeaakmbihaaDoorG00
import Derived.Test.YteikpeaakmbihaaDoorG06
import Derived.Deep.LoopGhost
import Derived.Deep.CutRange
import Derived.Deep.DeepCutAuto
import Derived.Lib.Hide
/- Reaches in memory; what finds a name's binder, and what lays a child's reach. -/
namespace Go.Proofs.YteikpeaakmbihaaDoor.T
open Go.RowKit
/-- Reaches in memory, one around the other. -/
def Chain (W : World) : Value → List Rch → Prop
  | v, [] => v = .pointer none
  | v, r :: rs => ∃ g u, v = .pointer (some ⟨g, 0, none⟩) ∧ W.heap[g]? = some (.cells #[.string r.nm, .int .i64 r.nd, .int .i64 r.br, u] 110 (0, 0)) ∧ Chain W u rs
theorem Chain.next {W W' : World} (hh : ∀ (g : Nat) (cs : Array Value), W.heap[g]? = some (.cells cs 110 (0, 0)) → W'.heap[g]? = some (.cells cs 110 (0, 0))) : ∀ (rs : List Rch) (v : Value), Chain W v rs → Chain W' v rs
  | [], _, h => h
  | r :: rs, v, h => by
    obtain ⟨g, u, h1, h2, h3⟩ := h
    exact ⟨g, u, h1, hh g _ h2, Chain.next hh rs u h3⟩
theorem chain_below {W W' : World} (hb : Below W.heap.size W W') {rs : List Rch} {v : Value} (h : Chain W v rs) : Chain W' v rs := h.next fun g _cs hg => (hb.block g (Array.getElem?_eq_some_iff.1 hg).1).trans hg
theorem bcell {W w1 : World} (hb : Below W.heap.size W w1) : (∀ b o, b < W.heap.size → w1.cell? ⟨b, o, none⟩ = W.cell? ⟨b, o, none⟩) ∧ (∀ b o, b < W.heap.size → w1.frozen? ⟨b, o, none⟩ = W.frozen? ⟨b, o, none⟩) :=
  ⟨fun b o h => hb.cell (p := ⟨b, o, none⟩) h, fun b o h => hb.frozen (p := ⟨b, o, none⟩) h⟩
theorem none_any (w : World) : Calls Tryd.prog 55 #[] w fun e w' => e = .returned (.agg #[.int .i64 (-1), .int .i64 (-1)]) ∧ Below w.heap.size w w' := by
  go_enter Tryd.func55, Tryd.ntmps55
  go_wp2
  exact bodyPost_ret (v := .agg #[.int .i64 (-1), .int .i64 (-1)]) (by simp [results, Tryd.results55, go_sem]) rfl ⟨rfl, (Below.refl _ _).alloc (Nat.le_refl _) _⟩
def BdPost (p : Int × Int) (w : World) (e : Ending) (w' : World) : Prop := e = .returned (.agg #[.int .i64 p.1, .int .i64 p.2]) ∧ Below w.heap.size w w'
set_option maxRecDepth 100000 in
set_option maxHeartbeats 4000000 in
theorem binder_any (env : List Rch) (v : Value) (s : ByteArray) (w : World) (HC : Hid (Chain w v env)) : Calls Tryd.prog 57 #[v, .string s] w (BdPost (look env s) w) := by
  obtain ⟨P, hP⟩ : ∃ P, look env s = P := ⟨_, rfl⟩
  rw [hP]
  have HP := Lib.hid hP
  clear hP
  have HZ : Hid (Below w.heap.size w (w.alloc (.cells #[.int .i64 0, .int .i64 0] 59))) := Lib.hid ((Below.refl _ _).alloc (Nat.le_refl _) _)
  have HO : Hid ((w.alloc (.cells #[.int .i64 0, .int .i64 0] 59)).heap[w.heap.size]? = some (.cells #[.int .i64 0, .int .i64 0] 59 (0, 0))) := Lib.hid (heap_alloc_new w _)
  have HC0 : Hid (Chain (w.alloc (.cells #[.int .i64 0, .int .i64 0] 59)) v env) := Lib.hid (chain_below HZ.out HC.out)
  clear HC
  go_enter Tryd.func57, Tryd.ntmps57
  go_wp2
  go_loopg [0] env.length (fun g u wr => ∃ rs : List Rch, rs.length = g ∧ Hid (Chain (w.alloc (.cells #[.int .i64 0, .int .i64 0] 59)) u rs) ∧ Hid (look rs s = P) ∧ wr = w.alloc (.cells #[.int .i64 0, .int .i64 0] 59))
  case atStart => exact ⟨env, rfl, HC0, HP, rfl⟩
  case round =>
    obtain ⟨rs, hg, HR, HL, hw⟩ := hrel
    subst hw
    cases rs with
    | nil =>
      have hu := HR.out
      obtain rfl := hu
      have hp : P = (-1, -1) := HL.out.symm
      subst hp
      go_wp2_with (go_at_call 55; refine (none_any _).mono ?_; rintro e w1 ⟨rfl, hb⟩; obtain ⟨hc, hf⟩ := bcell hb)
      exact bodyPost_ret (v := .agg #[.int .i64 (-1), .int .i64 (-1)]) (by simp [results, Tryd.results57, go_sem, hc]) rfl ⟨rfl, ((HZ.out.trans (hb.mono (by simp))).setCell (p := ⟨w.heap.size, 0, none⟩) (Nat.le_refl _) _).setCell (p := ⟨w.heap.size, 1, none⟩) (Nat.le_refl _) _⟩
    | cons r rs =>
      obtain ⟨p, u', rfl, hb, HR'⟩ := HR.out
      have c0 := (Blk_cell hb 0).trans rfl
      have c1 := (Blk_cell hb 1).trans rfl
      have c2 := (Blk_cell hb 2).trans rfl
      have c3 := (Blk_cell hb 3).trans rfl
      have HR2 := Lib.hid HR'
      clear HR' hb
      by_cases hs : (r.nm.toList == s.toList) = true
      · have hp : P = (r.nd, r.br) := by rw [← HL.out, look, if_pos hs]
        subst hp
        go_wp2
        exact bodyPost_ret (v := .agg #[.int .i64 r.nd, .int .i64 r.br]) (by simp [results, Tryd.results57, go_sem]) rfl ⟨rfl, (Below.refl _ _).alloc (Nat.le_refl _) _⟩
      · have hp : look rs s = P := by rw [← HL.out, look, if_neg hs]
        have hs2 : (r.nm.toList == s.toList) = false := by simpa using hs
        go_wp2
        go_roundg rs.length
        case measure => simp at hg; omega
        case rel => exact ⟨rs, rfl, HR2, Lib.hid hp, rfl⟩
def RcPost (env : List Rch) (w : World) (e : Ending) (w' : World) : Prop := ∃ u, e = .returned u ∧ Chain w' u env ∧ Below w.heap.size w w'
theorem chain_mk {w : World} {x : Nd} {fv u : Value} {env : List Rch} {nm : ByteArray} {nd br : Int} (h : Chain w u env) :
    Chain ((w.alloc (.cells (ndArr x fv) 27)).alloc (.cells #[.string nm, .int .i64 nd, .int .i64 br, u] 110)) (.pointer (some ⟨w.heap.size + 1, 0, none⟩)) (⟨nm, nd, br⟩ :: env) := by
  refine ⟨w.heap.size + 1, u, rfl, ?_, chain_below (((Below.refl _ _).alloc (Nat.le_refl _) _).alloc (by simp) _) h⟩
  have := heap_alloc_new (w.alloc (.cells (ndArr x fv) 27)) (.cells #[.string nm, .int .i64 nd, .int .i64 br, u] 110)
  simpa using this
theorem chain_ptr {w : World} {v : Value} : ∀ {env : List Rch}, Chain w v env → ∃ p, v = .pointer p
  | [], h => ⟨_, h⟩
  | _ :: _, ⟨_, _, h, _⟩ => ⟨_, h⟩
set_option maxRecDepth 100000 in
set_option maxHeartbeats 4000000 in
theorem ofKid_any (x : Nd) (fv v : Value) (env : List Rch) (i k : Nat) (hk : k ≤ 2000000) (h14 : x.kind = 14 → k ≤ x.l.length) (w : World) (HC : Hid (Chain w v env)) (hF : Flds w.heap.size w fv x.l) :
    Calls Tryd.prog 58 #[v, .agg (ndArr x fv), .int .i64 (i : Int), .int .i64 (k : Int)] w (RcPost (ofK x i k env) w) := by
  obtain ⟨p, rfl⟩ := chain_ptr HC.out
  have HB1 : Hid (∀ o, Below w.heap.size w ((w.alloc (.cells (ndArr x fv) 27)).alloc o)) := Lib.hid fun o => ((Below.refl _ _).alloc (Nat.le_refl _) _).alloc (by simp) _
  have HB0 : Hid (Below w.heap.size w (w.alloc (.cells (ndArr x fv) 27))) := Lib.hid ((Below.refl _ _).alloc (Nat.le_refl _) _)
  have HM := Lib.hid fun nm nd br => chain_mk (x := x) (fv := fv) (nm := nm) (nd := nd) (br := br) HC.out
  obtain ⟨K, hK⟩ : ∃ K, x.kind = K := ⟨_, rfl⟩
  obtain ⟨P, hP⟩ : ∃ P, ofK x i k env = P := ⟨_, rfl⟩
  rw [hP]
  rw [ofK] at hP
  unfold ndArr at HM HB1 HB0 ⊢
  rw [hK] at hP h14 HM HB1 HB0 ⊢
  by_cases h5 : K = 5 ∨ K = 8
  · rw [if_pos h5] at hP
    subst hP
    rcases h5 with rfl | rfl
    all_goals
      clear h14 hK
      go_enter Tryd.func58, Tryd.ntmps58
      go_wp2
      go_ret
      exact ⟨_, rfl, HM.out _ _ _, HB1.out _⟩
  · rw [if_neg h5] at hP
    by_cases h7 : K = 7
    · rw [if_pos h7] at hP
      subst h7
      by_cases hk1 : k = 1
      · rw [if_pos hk1] at hP
        subst hP
        subst hk1
        clear h14 hK
        go_enter Tryd.func58, Tryd.ntmps58
        go_wp2
        go_ret
        exact ⟨_, rfl, HM.out _ _ _, HB1.out _⟩
      · rw [if_neg hk1] at hP
        subst hP
        have d1 : ((k : Int) == 1) = false := by simpa using (by omega : ¬ (k : Int) = 1)
        clear h14 hK
        go_enter Tryd.func58, Tryd.ntmps58
        go_wp2
        go_ret
        exact ⟨_, rfl, chain_below HB0.out HC.out, HB0.out⟩
    · rw [if_neg h7] at hP
      by_cases h14' : K = 14
      · rw [if_pos h14'] at hP
        subst h14'
        by_cases hk0 : 0 < k
        · rw [if_pos hk0] at hP
          subst hP
          have hkl := h14 rfl
          obtain ⟨f, hf⟩ : ∃ f, x.l[k - 1]? = some f := ⟨_, List.getElem?_eq_getElem (by omega)⟩
          obtain ⟨A, c, rfl, hc, hn, hq⟩ := hF
          obtain ⟨b, o, rfl, hb, hat⟩ := hq (by omega)
          have hv : vrAt x (k - 1) = f.vr := by simp [vrAt, hf]
          rw [hv]
          obtain ⟨L, hL⟩ : ∃ L, x.l.length = L := ⟨_, rfl⟩
          obtain ⟨m0, m1, m2⟩ := hat (k - 1) f hf
          have s1 : (w.alloc (.cells #[.int .i64 14, .int .i64 x.a, .int .i64 x.b, .int .i64 x.c, .int .i64 x.n, .string x.nm, .string x.s, .slice (some ⟨b, o, none⟩) x.l.length c, .int .i64 x.pos] 27)).cell? ⟨b, o + (k - 1) * 3 + 1, none⟩ = some (.string f.vr) := (HB0.out.cell (p := ⟨b, _, none⟩) hb).trans m1
          obtain ⟨j, rfl⟩ : ∃ j, k = j + 1 := ⟨k - 1, by omega⟩
          rw [Nat.add_sub_cancel] at s1
          have e1 : ((j + 1 : Nat) : Int) - 1 = (j : Int) := by omega
          rw [e1]
          have d1 : decide (((j + 1 : Nat) : Int) > 0) = true := by simp
          rw [hL] at hkl s1 ⊢ HM HB1
          clear h14 hK hL m0 m1 m2 hat hq hf hv hc hn e1
          go_enter Tryd.func58, Tryd.ntmps58
          go_wp2
          go_ret
          exact ⟨_, rfl, HM.out _ _ _, HB1.out _⟩
        · obtain rfl : k = 0 := by omega
          rw [if_neg hk0] at hP
          subst hP
          clear h14 hK
          go_enter Tryd.func58, Tryd.ntmps58
          go_wp2
          go_ret
          exact ⟨_, rfl, chain_below HB0.out HC.out, HB0.out⟩
      · rw [if_neg h14'] at hP
        subst hP
        have d5 : (K == 5) = false := by simpa using (by omega : ¬ K = 5)
        have d8 : (K == 8) = false := by simpa using (by omega : ¬ K = 8)
        have d7 : (K == 7) = false := by simpa using (by omega : ¬ K = 7)
        have d14 : (K == 14) = false := by simpa using (by omega : ¬ K = 14)
        clear h14 hK
        go_enter Tryd.func58, Tryd.ntmps58
        go_wp2
        go_ret
        exact ⟨_, rfl, chain_below HB0.out HC.out, HB0.out⟩
end Go.Proofs.YteikpeaakmbihaaDoor.T
