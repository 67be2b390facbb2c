/- Joined by program: SClosed, SNames, SRNames, STexts. -/
import Derived.Test.YteikpeaakmbihaaDoorG40
import Derived.Test.YteikpeaakmbihaaDoorG11
import Derived.Test.YteikpeaakmbihaaDoorG22
import Derived.Test.YteikpeaakmbihaaDoorG24
import Derived.Deep.QuietTactic
import Derived.BigQuiet
import Derived.Deep.RegionHeld3
/- Is a tree closed? of both. -/
namespace Go.Proofs.YteikpeaakmbihaaDoor.T
open Go.RowKit Go.Shelf
def Gd (p : Int × Int) : Prop := p = (-1, -1) ∨ 0 ≤ p.1
theorem look_good {s : ByteArray} : ∀ {env : List Rch}, (∀ r ∈ env, 0 ≤ r.nd) → Gd (look env s)
  | [], _ => .inl rfl
  | r :: rs, h => by
    rw [look]
    split
    · exact .inr (h r (by simp))
    · exact look_good fun r' h' => h r' (by simp [h'])
theorem ofK_good {x : Nd} {i k : Nat} {env : List Rch} (h : ∀ r ∈ env, 0 ≤ r.nd) : ∀ r ∈ ofK x i k env, 0 ≤ r.nd := fun r hr => by
  have key : ∀ (nm : ByteArray) (br : Int), r ∈ (⟨nm, (i : Int), br⟩ : Rch) :: env → 0 ≤ r.nd := fun nm br hm => by
    rcases List.mem_cons.1 hm with rfl | hm
    · show (0 : Int) ≤ (i : Int); omega
    · exact h r hm
  unfold ofK at hr
  split at hr
  · exact key _ _ hr
  · split at hr
    · split at hr
      · exact key _ _ hr
      · exact h r hr
    · split at hr
      · split at hr
        · exact key _ _ hr
        · exact h r hr
      · exact h r hr
theorem dn_good (l : List Nd) : ∀ (i : Nat) (env : List Rch) (xs : List (Int × Int)), (∀ r ∈ env, 0 ≤ r.nd) → (∀ p ∈ xs, Gd p) → ∀ p ∈ dn l i env xs, Gd p := by
  intro i
  induction i using Nat.strongRecOn with
  | ind i ih =>
    intro env xs he hx
    rw [dn]
    split
    · exact hx
    · rename_i x _
      have hx1 : ∀ p ∈ (if x.kind = 4 then xs.set i (look env x.nm) else xs), Gd p := fun p hp => by
        split at hp
        · rcases List.mem_or_eq_of_mem_set hp with h | rfl
          · exact hx p h
          · exact look_good he
        · exact hx p hp
      generalize (if x.kind = 4 then xs.set i (look env x.nm) else xs) = ys at hx1
      generalize (kids x).zipIdx = ps
      induction ps generalizing ys with
      | nil => exact hx1
      | cons q ps ihp =>
        rw [List.foldl_cons]
        refine ihp _ fun p hp => ?_
        split at hp
        · rename_i h
          exact ih _ h _ _ (ofK_good he) hx1 p hp
        · exact hx1 p hp
theorem bdp_good (l : List Nd) {q : Nat} {p : Int × Int} (h : (bdp l)[q]? = some p) : Gd p :=
  dn_good l _ _ _ (by simp) (fun p hp => .inl (List.eq_of_mem_replicate hp)) p (List.mem_of_getElem? h)
theorem isF_neg {x : Nd} {p : Int × Int} (h : Gd p) : isF x p = ((x.kind == 4) && decide (p.1 < 0)) := by
  unfold isF
  rcases h with rfl | h
  · simp
  · have h1 : (p.1 == -1) = false := by simpa using (by omega : ¬ p.1 = -1)
    have h2 : decide (p.1 < 0) = false := by simpa using h
    rw [h1, h2]; rfl
theorem fpz_pre (Z : List (Nd × (Int × Int))) (k : Nat) : ∃ r, fpz Z = fpz (Z.take k) ++ r := by
  have e : Z = Z.take k ++ Z.drop k := (List.take_append_drop k Z).symm
  refine ⟨((Z.drop k).zipIdx (0 + (Z.take k).length)).flatMap fun t => if isF t.1.1 t.1.2 = true then [(t.2 : Int)] else [], ?_⟩
  conv => lhs; rw [e]
  rw [fpz, List.zipIdx_append, List.flatMap_append]
  rfl
def clo (l : List Int) : Int × Int := match l with | [] => (0, 0) | p :: _ => (p, 10)
def rclo (l : List Int) : Int := match l with | [] => -1 | p :: _ => p
def CloPost (c : Int × Int) (w : World) (e : Ending) (w' : World) : Prop := e = .returned (.tuple #[.int .i64 c.1, .int .i64 c.2]) ∧ Below w.heap.size w w'
set_option maxRecDepth 100000 in
set_option maxHeartbeats 8000000 in
theorem closed_bad (l : List Nd) (v : Value) (m : Int) (hm : may l = m) (h0 : m ≠ 0) (w : World) (hK : Kws w.heap.size w) (hN : Nodes w.heap.size w v l) (hS : ∀ x ∈ l, Small x) :
    Calls Tryd.prog 36 #[.agg #[v]] w (CloPost (0, m) w) := by
  obtain ⟨A, c, rfl, h⟩ := hN
  have hN : Nodes w.heap.size w (.slice A l.length c) l := ⟨A, c, rfl, h⟩
  have hb0 := (Below.refl w.heap.size w).alloc (Nat.le_refl _) (.cells #[.slice A l.length c] 24)
  have HB0 := Lib.hid hb0
  have HBI := Lib.hid (places_bad l (.slice A l.length c) m hm h0 _ (Kws_mono (hK.on hb0) hb0.size) ((hN.below hb0).mono hb0.size) hS)
  clear hN h hb0 hm hK hS h0
  go_enter Tryd.func36, Tryd.ntmps36
  go_wp2_with (go_at_call 61; refine HBI.out.mono ?_; rintro e w1 ⟨rfl, hb1⟩; have HB1 := Lib.hid (below_next HB0.out hb1 (Nat.le_refl _)); clear hb1)
  go_ret2
  exact ⟨rfl, HB1.out⟩
set_option maxRecDepth 100000 in
set_option maxHeartbeats 8000000 in
theorem closed_ok (l : List Nd) (v : Value) (hm : may l = 0) (w : World) (hK : Kws w.heap.size w) (hN : Nodes w.heap.size w v l) (hS : ∀ x ∈ l, Small x) :
    Calls Tryd.prog 36 #[.agg #[v]] w (CloPost (clo (fpl l)) w) := by
  obtain ⟨A, c, rfl, h⟩ := hN
  have hN : Nodes w.heap.size w (.slice A l.length c) l := ⟨A, c, rfl, h⟩
  have hb0 := (Below.refl w.heap.size w).alloc (Nat.le_refl _) (.cells #[.slice A l.length c] 24)
  have HB0 := Lib.hid hb0
  have HBI := Lib.hid (places_ok l (.slice A l.length c) hm _ (Kws_mono (hK.on hb0) hb0.size) ((hN.below hb0).mono hb0.size) hS)
  clear hN h hb0 hm hK hS
  generalize fpl l = P at HBI
  cases P with
  | nil =>
    go_enter Tryd.func36, Tryd.ntmps36
    go_wp2_with (go_at_call 61; refine HBI.out.mono ?_; rintro e w1 ⟨v, rfl, ho, hb1⟩; obtain ⟨A1, c1, rfl, _⟩ := row_slice ho; have HB1 := Lib.hid (below_next HB0.out hb1 (Nat.le_refl _)); clear hb1 ho)
    go_ret2
    exact ⟨rfl, HB1.out⟩
  | cons p P =>
    go_enter Tryd.func36, Tryd.ntmps36
    go_wp2_with (go_at_call 61; refine HBI.out.mono ?_; rintro e w1 ⟨v, rfl, ho, hb1⟩; obtain ⟨g1, c1, rfl⟩ := ownsRow_succ (show World.ownsRow _ _ _ _ _ (P.length + 1) _ from ho); have z1 : w1.cell? ⟨g1, 0, none⟩ = some (.int .i64 p) := (by have := World.ownsRow.cells ho (g := g1) rfl 0 (.int .i64 p) rfl; rwa [Addr.add_lit, Nat.zero_add] at this); have HB1 := Lib.hid (below_next HB0.out hb1 (Nat.le_refl _)); have hp : (0 : Int) < ((P.length + 1 : Nat) : Int) := (by omega); clear hb1 ho)
    go_ret2
    exact ⟨rfl, HB1.out⟩
set_option maxRecDepth 100000 in
set_option maxHeartbeats 16000000 in
theorem rclosed_any (l : List Nd) (v : Value) (hm : may l = 0) (w : World) (hN : Nodes w.heap.size w v l) (hS : ∀ x ∈ l, x.l.length ≤ 1000000) :
    Calls Tryd.prog 37 #[.agg #[v]] w fun e w' => e = .returned (.int .i64 (rclo (fpl l))) ∧ Below w.heap.size w w' := by
  obtain ⟨h1, h6⟩ := may_big hm
  have HGD := Lib.hid fun (q : Nat) (p : Int × Int) h => bdp_good l (q := q) (p := p) h
  obtain ⟨L, hL⟩ : ∃ L, l.length = L := ⟨_, rfl⟩
  rw [fpl]
  obtain ⟨B, hB⟩ : ∃ B, bdp l = B := ⟨_, rfl⟩
  rw [hB] at HGD
  obtain ⟨A, c, rfl, h⟩ := hN
  have hN : Nodes w.heap.size w (.slice A l.length c) l := ⟨A, c, rfl, h⟩
  obtain ⟨b, o, rfl, hb, hat⟩ := h.2.2 (by omega)
  have HAT : Hid (∀ (q : Nat) (x : Nd), l[q]? = some x → ∀ W, Below w.heap.size w W → W.cell? ⟨b, o + q * 9, none⟩ = some (.int .i64 x.kind)) := Lib.hid fun q x hx W hbw => by
    obtain ⟨_, _, m0, _⟩ := hat q x hx
    exact (hbw.cell (p := ⟨b, _, none⟩) hb).trans m0
  have hb0 := (Below.refl w.heap.size w).alloc (Nat.le_refl _) (.cells #[.slice (some ⟨b, o, none⟩) l.length c] 24)
  have HB0 := Lib.hid hb0
  have HE0 : Hid ((w.alloc (.cells #[.slice (some ⟨b, o, none⟩) l.length c] 24)).heap[w.heap.size]? = some (.cells #[.slice (some ⟨b, o, none⟩) l.length c] 24 (0, 0))) := Lib.hid (newAt rfl)
  have HBI := Lib.hid (rbind_law l (.slice (some ⟨b, o, none⟩) l.length c) hm _ ((hN.below hb0).mono hb0.size) hS)
  have HL := Lib.hid hL
  rw [hB] at HBI ⊢
  rw [hL] at HBI HB0 HE0 h1 h6 ⊢
  obtain ⟨R, hR⟩ : ∃ R, rclo (fpz (l.zip B)) = R := ⟨_, rfl⟩
  rw [hR]
  have HR := Lib.hid hR
  clear hB hN h hb0 hm hS hL hat hR
  go_enter Tryd.func37, Tryd.ntmps37
  go_wp2_with (go_at_call 33; refine HBI.out.mono ?_; rintro e w1 ⟨gl, cl, rfl, hr, hbl, hb1⟩; have HBL := Lib.hid hbl; have HRB := Lib.hid hr; have e1 := (Blk_cell (blk_next HE0.out hb1) 0).trans rfl; have HB1 := Lib.hid (below_next HB0.out hb1 (Nat.le_refl _)); clear hr hbl hb1)
  go_loop [4] (fun s4 => ∃ q : Nat, s4 = .int .i64 (q : Int) ∧ q ≤ L ∧ Hid (fpz ((l.zip B).take q) = [])) (fun s4 => L - (intOf s4).toNat)
  case atStart => exact ⟨0, rfl, Nat.zero_le _, Lib.hid (by simp [fpz])⟩
  case round =>
    obtain ⟨q, rfl, hq, HN⟩ := hrel
    by_cases hlt : q < L
    · obtain ⟨⟨P1, P2⟩, hp⟩ : ∃ p, B[q]? = some p := ⟨_, List.getElem?_eq_getElem (by rw [HBL.out]; exact hlt)⟩
      obtain ⟨x, hx⟩ : ∃ x, l[q]? = some x := ⟨_, List.getElem?_eq_getElem (by rw [HL.out]; exact hlt)⟩
      obtain ⟨z1, _⟩ := HRB.out.cell hp
      have HST := Lib.hid (fpz_step (zip_at hx hp))
      have k0 := HAT.out q x hx _ HB1.out
      have HIF : Hid (isF x (P1, P2) = ((x.kind == 4) && decide (P1 < 0))) := Lib.hid (isF_neg (HGD.out q _ hp))
      obtain ⟨K, hK⟩ : ∃ K, x.kind = K := ⟨_, rfl⟩
      rw [hK] at k0 HIF
      clear hp hx hK
      cases t1 : (K == 4) with
      | false =>
        have HN2 : Hid (fpz ((l.zip B).take (q + 1)) = []) := Lib.hid (by rw [HST.out, if_neg (by rw [HIF.out, t1]; simp), HN.out]; rfl)
        go_wp2
        go_round
        case rel => exact ⟨q + 1, by go_num, by omega, HN2⟩
        case measure => simp [intOf]; omega
      | true =>
        obtain rfl : K = 4 := by simpa using t1
        cases t2 : decide (P1 < 0) with
        | false =>
          have HN2 : Hid (fpz ((l.zip B).take (q + 1)) = []) := Lib.hid (by rw [HST.out, if_neg (by rw [HIF.out, t2]; simp), HN.out]; rfl)
          go_wp2
          go_round
          case rel => exact ⟨q + 1, by go_num, by omega, HN2⟩
          case measure => simp [intOf]; omega
        | true =>
          have hRq : R = (q : Int) := by
            obtain ⟨r, hr⟩ := fpz_pre (l.zip B) (q + 1)
            rw [HST.out, if_pos (by rw [HIF.out, t2]; rfl), HN.out] at hr
            rw [← HR.out, hr]; rfl
          subst hRq
          go_wp2
          go_ret
          exact ⟨rfl, HB1.out⟩
    · obtain rfl : q = L := by omega
      have hR2 : R = -1 := by
        have hb : (l.zip B).take q = l.zip B := List.take_of_length_le (by rw [List.length_zip, HL.out, HBL.out]; omega)
        have := HN.out
        rw [hb] at this
        rw [← HR.out, this]; rfl
      subst hR2
      go_wp2
      go_ret
      exact ⟨rfl, HB1.out⟩
end Go.Proofs.YteikpeaakmbihaaDoor.T
/- The free names, of the program. -/
namespace Go.Proofs.YteikpeaakmbihaaDoor.T
open Go.RowKit Go.Shelf
def inN (s : ByteArray) (out : List ByteArray) : Bool := out.any fun t => t.toList == s.toList
def addN (out : List ByteArray) (s : ByteArray) : List ByteArray := if inN s out = true then out else out ++ [s]
def nmAt (l : List Nd) (p : Int) : ByteArray := (l[p.toNat]?.map Nd.nm).getD ⟨#[]⟩
/-- The free names, each once. -/
def frs (l : List Nd) (P : List Int) : List ByteArray := P.foldl (fun out p => addN out (nmAt l p)) []
theorem frs_snoc (l : List Nd) (P : List Int) (p : Int) : frs l (P ++ [p]) = addN (frs l P) (nmAt l p) := by simp [frs]
theorem frs_len (l : List Nd) (P : List Int) : (frs l P).length ≤ P.length := by
  induction P using snocInd with
  | h0 => simp [frs]
  | h1 P p ih => rw [frs_snoc, addN]; split <;> simp <;> omega
theorem fpz_mem (Z : List (Nd × (Int × Int))) : ∀ p ∈ fpz Z, 0 ≤ p ∧ ∃ z, Z[p.toNat]? = some z ∧ isF z.1 z.2 = true := fun p hp => by
  rw [fpz] at hp
  obtain ⟨t, ht, hpt⟩ := List.mem_flatMap.1 hp
  by_cases h : isF t.1.1 t.1.2 = true
  · rw [if_pos h] at hpt
    obtain rfl : p = (t.2 : Int) := by simpa using hpt
    exact ⟨by omega, t.1, by rw [Int.toNat_natCast]; exact List.mem_zipIdx_iff_getElem?.1 ht, h⟩
  · rw [if_neg h] at hpt; simp at hpt
theorem fpl_mem {l : List Nd} {p : Int} (h : p ∈ fpl l) : 0 ≤ p ∧ ∃ x, l[p.toNat]? = some x := by
  obtain ⟨h1, z, hz, _⟩ := fpz_mem _ p h
  rw [List.getElem?_zip_eq_some] at hz
  exact ⟨h1, z.1, hz.1⟩
theorem strInfoS : (Tryd.prog.info? 9).map (fun i => (i.zero, i.size, i.bytes)) = some (some (.string ⟨#[]⟩), 1, 16) := by kernel_rfl
theorem inN_no (s : ByteArray) (l : List ByteArray) (k : Nat) (x : ByteArray) (h : l[k]? = some x) (ha : inN s (l.take k) = false) (hx : (x.toList == s.toList) = false) : inN s (l.take (k + 1)) = false := by
  rw [take_snoc _ _ _ h, inN, List.any_append]
  rw [inN] at ha
  rw [ha]; simp [hx]
theorem inN_yes (s : ByteArray) (l : List ByteArray) (k : Nat) (x : ByteArray) (h : l[k]? = some x) (hx : (x.toList == s.toList) = true) : inN s l = true :=
  List.any_eq_true.2 ⟨x, List.mem_of_getElem? h, hx⟩
def SxPost (t : Bool) (w : World) (e : Ending) (w' : World) : Prop := (∃ r : Int, e = .returned (.int .i64 r) ∧ decide (0 ≤ r) = t) ∧ w = w'
set_option maxHeartbeats 2000000 in
theorem sindex_any (out : List ByteArray) (v : Value) (B n : Nat) (s : ByteArray) (w : World) (hn : n ≤ 1000000) (HL : Hid (out.length = n)) (HR : Hid (w.ownsRow B 9 1 v n (out.map Value.string))) :
    Calls Tryd.prog 77 #[v, .string s] w (SxPost (inN s out) w) := by
  obtain ⟨A, c, rfl, _⟩ := row_slice HR.out
  go_enter Tryd.func77, Tryd.ntmps77
  go_wp2
  go_loop [8] (fun i => ∃ q : Nat, i = .int .i64 (q : Int) ∧ q ≤ n ∧ Hid (inN s (out.take q) = false)) (fun i => n - (intOf i).toNat)
  case atStart => exact ⟨0, rfl, Nat.zero_le _, Lib.hid (by simp [inN])⟩
  case round =>
    obtain ⟨q, rfl, hq, HC⟩ := hrel
    by_cases hlt : q < n
    · obtain ⟨z, hz⟩ : ∃ z, out[q]? = some z := ⟨_, List.getElem?_eq_getElem (by rw [HL.out]; exact hlt)⟩
      obtain ⟨g, rfl⟩ : ∃ g, A = some ⟨g, 0, none⟩ := by
        rcases HR.out.2 with ⟨_, h0⟩ | ⟨g, cap, cur, h, _⟩
        · omega
        · cases h; exact ⟨g, rfl⟩
      have hc : w.cell? ⟨g, q, none⟩ = some (.string z) := by
        have := World.ownsRow.cells HR.out (g := g) rfl q (.string z) (by rw [List.getElem?_map, hz]; rfl)
        rwa [Addr.add_lit, Nat.zero_add] at this
      have hcomm : (z.toList == s.toList) = (s.toList == z.toList) := BEq.comm
      cases hb : (s.toList == z.toList) with
      | true =>
        have HI : Hid (inN s out = true) := Lib.hid (inN_yes s out q z hz (hcomm.trans hb))
        clear hz hcomm
        go_wp2
        go_ret
        exact ⟨⟨_, rfl, by rw [HI.out]; simp⟩, rfl⟩
      | false =>
        have HN := Lib.hid (inN_no s out q z hz HC.out (hcomm.trans hb))
        clear hz hcomm
        go_wp2
        go_round
        case rel => exact ⟨q + 1, by go_num, by omega, HN⟩
        case measure => simp [intOf]; omega
    · obtain rfl : q = n := by omega
      have hb : out.take q = out := List.take_of_length_le (by rw [HL.out]; exact Nat.le_refl _)
      have HC2 : Hid (inN s out = false) := Lib.hid (by have := HC.out; rwa [hb] at this)
      clear hb
      go_wp2
      go_ret
      exact ⟨⟨_, rfl, by rw [HC2.out]; rfl⟩, rfl⟩
theorem scont_any (out : List ByteArray) (v : Value) (B n : Nat) (s : ByteArray) (b : Bool) (hb : inN s out = b) (w : World) (hn : n ≤ 1000000) (HL : Hid (out.length = n)) (HR : Hid (w.ownsRow B 9 1 v n (out.map Value.string))) :
    Calls Tryd.prog 62 #[v, .string s] w fun e w' => e = .returned (.bool b) ∧ w = w' := by
  have HB := Lib.hid hb
  clear hb
  go_enter Tryd.func62, Tryd.ntmps62
  go_wp2_with (go_at_call 77; refine (sindex_any out v B n s _ hn HL HR).mono ?_; rintro e w' ⟨⟨r, rfl, hr⟩, rfl⟩)
  go_ret
  exact ⟨ret_b (by have := HB.out; simpa [hr] using this), rfl⟩
theorem KB.of' {B g n c : Nat} {W : World} {K : List Int} (h : W.ownsRow B 3 1 (.slice (some ⟨g, 0, none⟩) n c) n (K.map (Value.int .i64))) : KB W g K := by
  have hc := fun (j : Nat) (z : Int) (hz : K[j]? = some z) => World.ownsRow.cells h (g := g) rfl j (.int .i64 z) (by rw [List.getElem?_map, hz]; rfl)
  rcases h.2 with ⟨h, _⟩ | ⟨g', cap, cur, h, _, hh, _⟩
  · exact absurd h (by simp)
  · cases h
    refine ⟨cur, hh, fun j z hz => ?_⟩
    have := hc j z hz
    rwa [Addr.add_lit, Nat.zero_add, Blk_cell hh] at this
theorem fpz_len (Z : List (Nd × (Int × Int))) : (fpz Z).length ≤ Z.length := by
  induction Z using snocInd with
  | h0 => simp [fpz]
  | h1 Z z ih => rw [fpz_snoc]; split <;> simp <;> omega
/-- Where Free stands. -/
structure FSt (w W : World) (e : Value) (gp : Nat) (P : List Int) (v : Value) (n : Nat) (out : List ByteArray) : Prop where
  low : Below w.heap.size w W
  e : W.heap[w.heap.size]? = some (.cells #[e] 24 (0, 0))
  p : KB W gp P
  o : W.ownsRow (w.heap.size + 1) 9 1 v n (out.map Value.string)
section
variable {w W W' : World} {e v v2 : Value} {gp n : Nat} {P : List Int} {out : List ByteArray}
theorem FSt.next (h : FSt w W e gp P v n out) (hb : Below W.heap.size W W') : FSt w W' e gp P v n out :=
  ⟨below_next h.low hb (Nat.le_refl _), blk_next h.e hb, h.p.next hb, World.ownsRow.kept h.o (grown_of hb) (ne_none _)⟩
theorem FSt.size (h : FSt w W e gp P v n out) : w.heap.size + 1 ≤ W.heap.size := (Array.getElem?_eq_some_iff.1 h.e).1
theorem FSt.ce (h : FSt w W e gp P v n out) : W.cell? ⟨w.heap.size, 0, none⟩ = some e := (Blk_cell h.e 0).trans rfl
theorem FSt.push {o : Obj} {z : ByteArray} (h : FSt w W e gp P v n out) (h1 : W'.ownsRow (w.heap.size + 1) 9 1 v2 (n + 1) (out.map Value.string ++ [.string z])) (h2 : (W.alloc o).grownBy W' v.ownBlock) : FSt w W' e gp P v2 (n + 1) (out ++ [z]) := by
  have h' := h.next ((Below.refl W.heap.size W).alloc (Nat.le_refl _) o)
  have hs := h'.size
  have hbl : ∀ k, k < w.heap.size + 1 → W'.heap[k]? = (W.alloc o).heap[k]? := fun k hk => h2.block k (by omega) (fun e => by have := (h'.o.lt k e.symm).1; omega)
  obtain ⟨cs, p1, p2⟩ := h'.p
  exact ⟨⟨h2.os.trans h'.low.os, h2.tape.trans h'.low.tape, h2.output.trans h'.low.output, by have := h2.size; omega, fun k hk => (hbl k (by omega)).trans (h'.low.block k hk)⟩, (hbl _ (by omega)).trans h'.e, ⟨cs, blk_kept p1 h'.o (by decide) h2, p2⟩, by rw [List.map_append]; exact h1⟩
end
def FrPost (out : List ByteArray) (err : Int) (w : World) (e : Ending) (w' : World) : Prop := ∃ v, e = .returned (.tuple #[v, .int .i64 err]) ∧ w'.ownsRow w.heap.size 9 1 v out.length (out.map Value.string) ∧ Below w.heap.size w w'
set_option maxRecDepth 100000 in
set_option maxHeartbeats 8000000 in
theorem free_bad (l : List Nd) (v : Value) (m : Int) (hm : may l = m) (h0 : m ≠ 0) (w : World) (hK : Kws w.heap.size w) (hN : Nodes w.heap.size w v l) (hS : ∀ x ∈ l, Small x) :
    Calls Tryd.prog 35 #[.agg #[v]] w (FrPost [] m w) := by
  obtain ⟨A, c, rfl, h⟩ := hN
  have hN : Nodes w.heap.size w (.slice A l.length c) l := ⟨A, c, rfl, h⟩
  have hb0 := (Below.refl w.heap.size w).alloc (Nat.le_refl _) (.cells #[.slice A l.length c] 24)
  have HB0 := Lib.hid hb0
  have HBI := Lib.hid (places_bad l (.slice A l.length c) m hm h0 _ (Kws_mono (hK.on hb0) hb0.size) ((hN.below hb0).mono hb0.size) hS)
  clear hN h hb0 hm hK hS h0
  go_enter Tryd.func35, Tryd.ntmps35
  go_wp2_with (go_at_call 61; refine HBI.out.mono ?_; rintro e w1 ⟨rfl, hb1⟩; have HB1 := Lib.hid (below_next HB0.out hb1 (Nat.le_refl _)); clear hb1)
  go_loopw [6, 17] (fun s6 s17 wr => s6 = .slice none 0 0 ∧ s17 = .int .i64 0 ∧ wr = w1) (fun _ _ _ => 0)
  case atStart => exact ⟨rfl, rfl, rfl⟩
  case round =>
    obtain ⟨rfl, rfl, hw⟩ := hrel
    subst hw
    go_wp2
    go_ret2
    exact ⟨_, rfl, World.ownsRow_nil _ _ _ _, HB1.out⟩
set_option maxRecDepth 100000 in
set_option maxHeartbeats 16000000 in
theorem free_ok (l : List Nd) (v : Value) (hm : may l = 0) (w : World) (hK : Kws w.heap.size w) (hN : Nodes w.heap.size w v l) (hS : ∀ x ∈ l, Small x ∧ Clonable x) :
    Calls Tryd.prog 35 #[.agg #[v]] w (FrPost (frs l (fpl l)) 0 w) := by
  obtain ⟨j0, hj0, hy0, hy1, hy2⟩ := info_parts strInfoS
  obtain ⟨h1, h6⟩ := may_big hm
  have HPM := Lib.hid fun p (h : p ∈ fpl l) => fpl_mem h
  have hpl : (fpl l).length ≤ 1000000 := by have := fpz_len (l.zip (bdp l)); rw [List.length_zip] at this; rw [fpl]; omega
  obtain ⟨A, c, rfl, h⟩ := hN
  have hN : Nodes w.heap.size w (.slice A l.length c) l := ⟨A, c, rfl, h⟩
  obtain ⟨b, o, rfl, hb, hat⟩ := h.2.2 (by omega)
  have HAT : Hid (∀ (q : Nat) (x : Nd), l[q]? = some x → ∀ W, Below w.heap.size w W → W.cell? ⟨b, o + q * 9 + 5, none⟩ = some (.string x.nm)) := Lib.hid fun q x hx W hbw => by
    obtain ⟨_, _, _, _, _, _, _, m5, _⟩ := hat q x hx
    exact (hbw.cell (p := ⟨b, _, none⟩) hb).trans m5
  have HCL : Hid (∀ (q : Nat) (x : Nd), l[q]? = some x → x.nm.size ≤ 281474976710656) := Lib.hid fun q x hx => (hS x (List.mem_of_getElem? hx)).2.1
  have hb0 := (Below.refl w.heap.size w).alloc (Nat.le_refl _) (.cells #[.slice (some ⟨b, o, none⟩) l.length c] 24)
  have HB0 := Lib.hid hb0
  have HE0 : Hid ((w.alloc (.cells #[.slice (some ⟨b, o, none⟩) l.length c] 24)).heap[w.heap.size]? = some (.cells #[.slice (some ⟨b, o, none⟩) l.length c] 24 (0, 0))) := Lib.hid (newAt rfl)
  have HBI := Lib.hid (places_ok l (.slice (some ⟨b, o, none⟩) l.length c) hm _ (Kws_mono (hK.on hb0) hb0.size) ((hN.below hb0).mono hb0.size) (fun x hx => (hS x hx).1))
  obtain ⟨L, hL⟩ : ∃ L, l.length = L := ⟨_, rfl⟩
  have HL := Lib.hid hL
  rw [hL] at HBI HB0 HE0 h1 h6
  rw [hL]
  generalize fpl l = P at HBI HPM hpl ⊢
  clear hN h hb0 hm hK hS hL hat
  cases P with
  | nil =>
    go_enter Tryd.func35, Tryd.ntmps35
    go_wp2_with (go_at_call 61; refine HBI.out.mono ?_; rintro e w1 ⟨v, rfl, ho, hb1⟩; obtain ⟨A1, c1, rfl, _⟩ := row_slice ho; have HB1 := Lib.hid (below_next HB0.out hb1 (Nat.le_refl _)); clear hb1 ho)
    go_loopw [6, 17] (fun s6 s17 wr => s6 = .slice none 0 0 ∧ s17 = .int .i64 0 ∧ wr = w1) (fun _ _ _ => 0)
    case atStart => exact ⟨rfl, rfl, rfl⟩
    case round =>
      obtain ⟨rfl, rfl, hw⟩ := hrel
      subst hw
      go_wp2
      go_ret2
      exact ⟨_, rfl, World.ownsRow_nil _ _ _ _, HB1.out⟩
  | cons p0 P0 =>
    obtain ⟨P, hP⟩ : ∃ P, p0 :: P0 = P := ⟨_, rfl⟩
    obtain ⟨M, hM⟩ : ∃ M, P.length = M := ⟨_, rfl⟩
    have HM1 : Hid (M = P0.length + 1) := Lib.hid (by rw [← hM, ← hP]; rfl)
    rw [hP] at HBI HPM hpl ⊢
    rw [hM] at hpl
    have HM := Lib.hid hM
    clear hP hM
    go_enter Tryd.func35, Tryd.ntmps35
    go_wp2_with (go_at_call 61; refine HBI.out.mono ?_; rintro e w1 ⟨v, rfl, ho, hb1⟩; rw [HM.out] at ho; obtain ⟨gp, cp, rfl⟩ : ∃ gp cp, v = .slice (some ⟨gp, 0, none⟩) M cp := (by rw [HM1.out] at ho ⊢; exact ownsRow_succ ho); have S1 : Hid (FSt w w1 (.slice (some ⟨b, o, none⟩) L c) gp P (.slice none 0 0) 0 []) := Lib.hid ⟨below_next HB0.out hb1 (Nat.le_refl _), blk_next HE0.out hb1, KB.of' ho, World.ownsRow_nil _ _ _ _⟩; clear hb1 ho)
    go_loopw [6, 17] (fun s6 s17 wr => ∃ (q : Nat) (v : Value) (n : Nat), v = s6 ∧ s17 = .int .i64 (q : Int) ∧ q ≤ M ∧ n ≤ q ∧ Hid ((frs l (P.take q)).length = n) ∧ Hid (FSt w wr (.slice (some ⟨b, o, none⟩) L c) gp P v n (frs l (P.take q)))) (fun _ s17 _ => M - (intOf s17).toNat)
    case atStart => exact ⟨0, _, 0, rfl, rfl, Nat.zero_le _, Nat.le_refl _, Lib.hid (by simp [frs]), S1⟩
    case round =>
      obtain ⟨q, u, n, rfl, rfl, hq, hnq, HN, HV⟩ := hrel
      obtain ⟨w2, rfl⟩ : ∃ w2, w2 = wr := ⟨_, rfl⟩
      by_cases hlt : q < M
      · obtain ⟨p, hp⟩ : ∃ p, P[q]? = some p := ⟨_, List.getElem?_eq_getElem (by rw [HM.out]; exact hlt)⟩
        obtain ⟨hp0, x, hx⟩ := HPM.out p (List.mem_of_getElem? hp)
        obtain ⟨m, rfl⟩ : ∃ m : Nat, p = (m : Int) := ⟨p.toNat, by omega⟩
        rw [Int.toNat_natCast] at hx
        have hml : m < L := by rw [← HL.out]; exact (List.getElem?_eq_some_iff.1 hx).1
        have z1 := HV.out.p.cell hp
        have k1 := HAT.out m x hx _ HV.out.low
        have e1 := HV.out.ce
        have hsz := HCL.out m x hx
        have HST : Hid (frs l (P.take (q + 1)) = addN (frs l (P.take q)) x.nm) := Lib.hid (by rw [take_snoc _ _ _ hp, frs_snoc, nmAt, Int.toNat_natCast, hx]; rfl)
        clear hp hx
        obtain ⟨T, hT⟩ : ∃ T, inN x.nm (frs l (P.take q)) = T := ⟨_, rfl⟩
        have HCN := Lib.hid (scont_any (frs l (P.take q)) u (w.heap.size + 1) n x.nm T hT w2 (by omega) HN (Lib.hid HV.out.o))
        have HT := Lib.hid hT
        clear hT
        cases T with
        | true =>
          have HST2 : Hid (frs l (P.take (q + 1)) = frs l (P.take q)) := Lib.hid (by rw [HST.out, addN, if_pos HT.out])
          rw [← HST2.out] at HN HV
          go_wp2_with (go_at_call 62; refine HCN.out.mono ?_; rintro e w' ⟨rfl, rfl⟩)
          go_roundw
          case rel => exact ⟨q + 1, _, n, rfl, by go_num, by omega, by omega, HN, HV⟩
          case measure => simp [intOf]; omega
        | false =>
          have HST2 : Hid (frs l (P.take (q + 1)) = frs l (P.take q) ++ [x.nm]) := Lib.hid (by rw [HST.out, addN, if_neg (by rw [HT.out]; simp)])
          go_wp2_with (first
            | (go_at_call 62; refine HCN.out.mono ?_; rintro e w' ⟨rfl, rfl⟩)
            | (go_at_call 63; refine (clone_any x.nm hsz _).mono ?_; rintro e w3 ⟨rfl, hb3⟩; have HV3 := Lib.hid (HV.out.next hb3); clear hb3)
            | (at_builtin; refine wpList_append_own _ rfl _ _ 62 rfl (w.heap.size + 1) 9 j0 (.string ⟨#[]⟩) 1 16 Tryd.underlying62 hj0 hy0 hy1 hy2 rfl (by decide) _ n _ rfl (HV3.out.o.alloc _) ⟨w3.heap.size, 0, none⟩ 1 1 [.string x.nm] rfl rfl (new1s _ 9 _ _ rfl) (fun u hu => by rw [List.mem_singleton.1 hu]; rfl) (by unfold maxLen; omega) (by omega) (by have := HV3.out.size; simp; omega) ?_; intro v6 w6 hown6 hgrow6 _; have HS6 := Lib.hid (HV3.out.push hown6 hgrow6); clear hown6 hgrow6))
          rw [← HST2.out] at HS6
          go_roundw
          case rel => exact ⟨q + 1, v6, n + 1, rfl, by go_num, by omega, by omega, Lib.hid (by rw [HST2.out, List.length_append, HN.out]; rfl), HS6⟩
          case measure => simp [intOf]; omega
      · obtain rfl : q = M := by omega
        go_wp2
        go_ret2
        have hb : P.take q = P := List.take_of_length_le (by rw [HM.out]; exact Nat.le_refl _)
        have h := HV.out.o
        have hn := HN.out
        rw [hb] at h hn
        subst hn
        exact ⟨_, rfl, row_mono h (by omega), HV.out.low⟩
end Go.Proofs.YteikpeaakmbihaaDoor.T
/- The free names, of the document; are two rows of texts the same? -/
namespace Go.Proofs.YteikpeaakmbihaaDoor.T
open Go.RowKit Go.Shelf
structure GSt (w W : World) (e : Value) (gl : Nat) (B : List (Int × Int)) (v : Value) (n : Nat) (out : List ByteArray) : Prop where
  low : Below w.heap.size w W
  e : W.heap[w.heap.size]? = some (.cells #[e] 24 (0, 0))
  r : RowB W gl B
  o : W.ownsRow (w.heap.size + 1) 9 1 v n (out.map Value.string)
section
variable {w W W' : World} {e v v2 : Value} {gl n : Nat} {B : List (Int × Int)} {out : List ByteArray}
theorem GSt.next (h : GSt w W e gl B v n out) (hb : Below W.heap.size W W') : GSt w W' e gl B v n out :=
  ⟨below_next h.low hb (Nat.le_refl _), blk_next h.e hb, h.r.next hb, World.ownsRow.kept h.o (grown_of hb) (ne_none _)⟩
theorem GSt.size (h : GSt w W e gl B v n out) : w.heap.size + 1 ≤ W.heap.size := (Array.getElem?_eq_some_iff.1 h.e).1
theorem GSt.ce (h : GSt w W e gl B v n out) : W.cell? ⟨w.heap.size, 0, none⟩ = some e := (Blk_cell h.e 0).trans rfl
theorem GSt.push {o : Obj} {z : ByteArray} (h : GSt w W e gl B v n out) (h1 : W'.ownsRow (w.heap.size + 1) 9 1 v2 (n + 1) (out.map Value.string ++ [.string z])) (h2 : (W.alloc o).grownBy W' v.ownBlock) : GSt w W' e gl B v2 (n + 1) (out ++ [z]) := by
  have h' := h.next ((Below.refl W.heap.size W).alloc (Nat.le_refl _) o)
  have hs := h'.size
  have hbl : ∀ k, k < w.heap.size + 1 → W'.heap[k]? = (W.alloc o).heap[k]? := fun k hk => h2.block k (by omega) (fun e => by have := (h'.o.lt k e.symm).1; omega)
  exact ⟨⟨h2.os.trans h'.low.os, h2.tape.trans h'.low.tape, h2.output.trans h'.low.output, by have := h2.size; omega, fun k hk => (hbl k (by omega)).trans (h'.low.block k hk)⟩, (hbl _ (by omega)).trans h'.e, h'.r.kept h'.o (by decide) h2, by rw [List.map_append]; exact h1⟩
end
theorem frs_step {l : List Nd} {B : List (Int × Int)} {q : Nat} {x : Nd} {p : Int × Int} (h1 : l[q]? = some x) (h2 : B[q]? = some p) :
    frs l (fpz ((l.zip B).take (q + 1))) = if isF x p = true then addN (frs l (fpz ((l.zip B).take q))) x.nm else frs l (fpz ((l.zip B).take q)) := by
  rw [fpz_step (zip_at h1 h2)]
  by_cases h : isF x p = true
  · rw [if_pos h, if_pos h, frs_snoc, nmAt, Int.toNat_natCast, h1]; rfl
  · rw [if_neg h, if_neg h, List.append_nil]
def TxPost (out : List ByteArray) (w : World) (e : Ending) (w' : World) : Prop := ∃ g c, e = .returned (.slice (some ⟨g, 0, none⟩) out.length c) ∧ w'.ownsRow w.heap.size 9 1 (.slice (some ⟨g, 0, none⟩) out.length c) out.length (out.map Value.string) ∧ Below w.heap.size w w'
theorem inN_take {s : ByteArray} {out : List ByteArray} {k : Nat} {z : ByteArray} (hz : out[k]? = some z) : inN s (out.take (k + 1)) = (inN s (out.take k) || (z.toList == s.toList)) := by
  rw [take_snoc _ _ _ hz, inN, inN, List.any_append]; simp
set_option maxRecDepth 100000 in
set_option maxHeartbeats 16000000 in
theorem rfree_any (l : List Nd) (v : Value) (hm : may l = 0) (w : World) (hN : Nodes w.heap.size w v l) (hS : ∀ x ∈ l, x.l.length ≤ 1000000) :
    Calls Tryd.prog 39 #[.agg #[v]] w (TxPost (frs l (fpl l)) w) := by
  obtain ⟨j0, hj0, hy0, hy1, hy2⟩ := info_parts strInfoS
  obtain ⟨h1, h6⟩ := may_big hm
  have HGD := Lib.hid fun (q : Nat) (p : Int × Int) h => bdp_good l (q := q) (p := p) h
  obtain ⟨L, hL⟩ : ∃ L, l.length = L := ⟨_, rfl⟩
  rw [fpl]
  obtain ⟨B, hB⟩ : ∃ B, bdp l = B := ⟨_, rfl⟩
  rw [hB] at HGD
  obtain ⟨A, c, rfl, h⟩ := hN
  have hN : Nodes w.heap.size w (.slice A l.length c) l := ⟨A, c, rfl, h⟩
  obtain ⟨b, o, rfl, hb, hat⟩ := h.2.2 (by omega)
  have HAT : Hid (∀ (q : Nat) (x : Nd), l[q]? = some x → ∀ W, Below w.heap.size w W → W.cell? ⟨b, o + q * 9, none⟩ = some (.int .i64 x.kind) ∧ W.cell? ⟨b, o + q * 9 + 5, none⟩ = some (.string x.nm)) := Lib.hid fun q x hx W hbw => by
    obtain ⟨_, _, m0, _, _, _, _, m5, _⟩ := hat q x hx
    exact ⟨(hbw.cell (p := ⟨b, _, none⟩) hb).trans m0, (hbw.cell (p := ⟨b, _, none⟩) hb).trans m5⟩
  have hb0 := (Below.refl w.heap.size w).alloc (Nat.le_refl _) (.cells #[.slice (some ⟨b, o, none⟩) l.length c] 24)
  have HB0 := Lib.hid hb0
  have HE0 : Hid ((w.alloc (.cells #[.slice (some ⟨b, o, none⟩) l.length c] 24)).heap[w.heap.size]? = some (.cells #[.slice (some ⟨b, o, none⟩) l.length c] 24 (0, 0))) := Lib.hid (newAt rfl)
  have HBI := Lib.hid (rbind_law l (.slice (some ⟨b, o, none⟩) l.length c) hm _ ((hN.below hb0).mono hb0.size) hS)
  have HL := Lib.hid hL
  rw [hB] at HBI ⊢
  rw [hL] at HBI HB0 HE0 h1 h6 ⊢
  clear hB hN h hb0 hm hS hL hat
  go_enter Tryd.func39, Tryd.ntmps39
  go_wp2_with (go_at_call 33; refine HBI.out.mono ?_; rintro e w1 ⟨gl, cl, rfl, hr, hbl, hb1⟩; have HBL := Lib.hid hbl; have S1 : Hid (GSt w (w1.alloc (.cells #[] 9)) (.slice (some ⟨b, o, none⟩) L c) gl B (.slice (some ⟨w1.heap.size, 0, none⟩) 0 0) 0 []) := Lib.hid (by
    have hal := (Below.refl w1.heap.size w1).alloc (Nat.le_refl _) (.cells #[] 9)
    have he1 := blk_next HE0.out hb1
    have hs1 := (Array.getElem?_eq_some_iff.1 he1).1
    exact ⟨below_next (below_next HB0.out hb1 (Nat.le_refl _)) hal (Nat.le_refl _), blk_next he1 hal, hr.next hal, World.ownsRow_made (base := w.heap.size + 1) (e := 9) (size := 1) w1 #[] 0 (by omega) (by decide) rfl⟩); have e1 := S1.out.ce; clear hr hbl hb1)
  go_loopw [4, 5] (fun s4 s5 wr => ∃ (q g n k : Nat), s4 = .slice (some ⟨g, 0, none⟩) n k ∧ s5 = .int .i64 (q : Int) ∧ q ≤ L ∧ n ≤ q ∧ Hid ((frs l (fpz ((l.zip B).take q))).length = n) ∧ Hid (GSt w wr (.slice (some ⟨b, o, none⟩) L c) gl B (.slice (some ⟨g, 0, none⟩) n k) n (frs l (fpz ((l.zip B).take q))))) (fun _ s5 _ => L - (intOf s5).toNat)
  case atStart => exact ⟨0, _, 0, _, rfl, rfl, Nat.zero_le _, Nat.le_refl _, Lib.hid (by simp [frs, fpz]), S1⟩
  case round =>
    obtain ⟨q, g, n, k, rfl, rfl, hq, hnq, HN, HV⟩ := hrel
    obtain ⟨w2, rfl⟩ : ∃ w2, w2 = wr := ⟨_, rfl⟩
    have e2 := HV.out.ce
    clear e1 S1
    by_cases hlt : q < L
    · obtain ⟨⟨P1, P2⟩, hp⟩ : ∃ p, B[q]? = some p := ⟨_, List.getElem?_eq_getElem (by rw [HBL.out]; exact hlt)⟩
      obtain ⟨x, hx⟩ : ∃ x, l[q]? = some x := ⟨_, List.getElem?_eq_getElem (by rw [HL.out]; exact hlt)⟩
      obtain ⟨z1, _⟩ := HV.out.r.cell hp
      have HST := Lib.hid (frs_step hx hp)
      obtain ⟨k0, k5⟩ := HAT.out q x hx _ HV.out.low
      have HXC := Lib.hid (HAT.out q x hx)
      have HIF : Hid (isF x (P1, P2) = ((x.kind == 4) && decide (P1 < 0))) := Lib.hid (isF_neg (HGD.out q _ hp))
      obtain ⟨K, hK⟩ : ∃ K, x.kind = K := ⟨_, rfl⟩
      rw [hK] at k0 HIF
      clear hp hx hK
      obtain ⟨OUT, hOUT⟩ : ∃ OUT, frs l (fpz ((l.zip B).take q)) = OUT := ⟨_, rfl⟩
      rw [hOUT] at HN HV HST
      clear hOUT
      cases t1 : (K == 4) with
      | false =>
        have t1' : (K != 4) = true := by rw [bne, t1]; rfl
        have HST2 : Hid (frs l (fpz ((l.zip B).take (q + 1))) = OUT) := Lib.hid (by rw [HST.out, if_neg (by rw [HIF.out, t1]; simp)])
        rw [← HST2.out] at HN HV
        go_wp2
        go_roundw
        case rel => exact ⟨q + 1, _, n, _, rfl, by go_num, by omega, by omega, HN, HV⟩
        case measure => simp [intOf]; omega
      | true =>
        obtain rfl : K = 4 := by simpa using t1
        cases t2 : decide (P1 < 0) with
        | false =>
          have t2' : decide (P1 ≥ 0) = true := by simpa using t2
          have HST2 : Hid (frs l (fpz ((l.zip B).take (q + 1))) = OUT) := Lib.hid (by rw [HST.out, if_neg (by rw [HIF.out, t2]; simp)])
          rw [← HST2.out] at HN HV
          go_wp2
          go_roundw
          case rel => exact ⟨q + 1, _, n, _, rfl, by go_num, by omega, by omega, HN, HV⟩
          case measure => simp [intOf]; omega
        | true =>
          have t2' : decide (P1 ≥ 0) = false := by simpa using t2
          have HST2 : Hid (frs l (fpz ((l.zip B).take (q + 1))) = addN OUT x.nm) := Lib.hid (by rw [HST.out, if_pos (by rw [HIF.out, t2]; rfl)])
          go_wp2
          go_loopw [6, 7] (fun s6 s7 wr => ∃ (j : Nat), s6 = .bool (inN x.nm (OUT.take j)) ∧ s7 = .int .i64 (j : Int) ∧ j ≤ n ∧ Hid (Below w2.heap.size w2 wr)) (fun _ s7 _ => n - (intOf s7).toNat)
          case atStart => exact ⟨0, rfl, rfl, Nat.zero_le _, Lib.hid (Below.refl _ _)⟩
          case round =>
            obtain ⟨j, rfl, rfl, hj, HB⟩ := hrel
            have HV3 := Lib.hid (HV.out.next HB.out)
            have e3 := HV3.out.ce
            have k3 := (HXC.out _ HV3.out.low).2
            clear e2 k0 k5 z1
            by_cases hjn : j < n
            · obtain ⟨z, hz⟩ : ∃ z, OUT[j]? = some z := ⟨_, List.getElem?_eq_getElem (by rw [HN.out]; exact hjn)⟩
              have hc : wr.cell? ⟨g, j, none⟩ = some (.string z) := by
                have := World.ownsRow.cells HV3.out.o (g := g) rfl j (.string z) (by rw [List.getElem?_map, hz]; rfl)
                rwa [Addr.add_lit, Nat.zero_add] at this
              have HIT := Lib.hid (inN_take (s := x.nm) hz)
              clear hz
              cases ti : inN x.nm (OUT.take j) with
              | true =>
                have HIT2 : Hid (inN x.nm (OUT.take (j + 1)) = true) := Lib.hid (by rw [HIT.out, ti]; rfl)
                go_upto_region 10 with fail
                go_region
                all_goals
                  go_wp2_with fail
                  go_roundw
                  case rel => exact ⟨j + 1, by rw [HIT2.out], by go_num, by omega, Lib.hid HB.out.drew⟩
                  case measure => simp [intOf]; omega
              | false =>
                have HIT2 : Hid (inN x.nm (OUT.take (j + 1)) = (z.toList == x.nm.toList)) := Lib.hid (by rw [HIT.out, ti]; rfl)
                go_upto_region 10 with fail
                go_region_held3 (fun W => W.cell? ⟨w.heap.size, 0, none⟩ = some (.slice (some ⟨b, o, none⟩) L c) ∧ W.cell? ⟨b, o + q * 9 + 5, none⟩ = some (.string x.nm) ∧ W.cell? ⟨g, j, none⟩ = some (.string z)) (first | exact ⟨e3, k3, hc⟩) (fail)
                all_goals
                  go_wp2_with fail
                  go_roundw
                  case rel => exact ⟨j + 1, by rw [HIT2.out], by go_num, by omega, Lib.hid HB.out.drew⟩
                  case measure => simp [intOf]; omega
            · obtain rfl : j = n := by omega
              have HTK : Hid (OUT.take j = OUT) := Lib.hid (List.take_of_length_le (by rw [HN.out]; exact Nat.le_refl _))
              rw [HTK.out]
              cases ti : inN x.nm OUT with
              | true =>
                have HST3 : Hid (frs l (fpz ((l.zip B).take (q + 1))) = OUT) := Lib.hid (by rw [HST2.out, addN, if_pos ti])
                rw [← HST3.out] at HN HV3
                go_wp2
                go_roundw
                case rel => exact ⟨q + 1, _, _, _, rfl, by go_num, by omega, by omega, HN, HV3⟩
                case measure => simp [intOf]; omega
              | false =>
                have HST3 : Hid (frs l (fpz ((l.zip B).take (q + 1))) = OUT ++ [x.nm]) := Lib.hid (by rw [HST2.out, addN, if_neg (by rw [ti]; simp)])
                go_wp2_with (at_builtin; refine wpList_append_own _ rfl _ _ 62 rfl (w.heap.size + 1) 9 j0 (.string ⟨#[]⟩) 1 16 Tryd.underlying62 hj0 hy0 hy1 hy2 rfl (by decide) _ j _ rfl (HV3.out.o.alloc _) ⟨wr.heap.size, 0, none⟩ 1 1 [.string x.nm] rfl rfl (new1s _ 9 _ _ rfl) (fun u hu => by rw [List.mem_singleton.1 hu]; rfl) (by unfold maxLen; omega) (by omega) (by have := HV3.out.size; simp; omega) ?_; intro v6 w6 hown6 hgrow6 _; obtain ⟨g6, c6, rfl⟩ := ownsRow_succ hown6; have HS6 := Lib.hid (HV3.out.push hown6 hgrow6); clear hown6 hgrow6)
                rw [← HST3.out] at HS6
                go_roundw
                case rel => exact ⟨q + 1, _, j + 1, _, rfl, by go_num, by omega, by omega, Lib.hid (by rw [HST3.out, List.length_append, HN.out]; rfl), HS6⟩
                case measure => simp [intOf]; omega
    · obtain rfl : q = L := by omega
      go_wp2
      go_ret
      have hb : (l.zip B).take q = l.zip B := List.take_of_length_le (by rw [List.length_zip, HL.out, HBL.out]; omega)
      have h := HV.out.o
      have hn := HN.out
      rw [hb] at h hn
      subst hn
      exact ⟨g, k, rfl, row_mono h (by omega), HV.out.low⟩
end Go.Proofs.YteikpeaakmbihaaDoor.T
/- Two rows that hold the same texts; two rows of binders. -/
namespace Go.Proofs.YteikpeaakmbihaaDoor.T
open Go.RowKit Go.Shelf
theorem str_cell {W : World} {B n c j : Nat} {A : Option Addr} {X : List ByteArray} {s : ByteArray} (h : W.ownsRow B 9 1 (.slice A n c) n (X.map Value.string)) (hj : X[j]? = some s) : ∃ g, A = some ⟨g, 0, none⟩ ∧ W.cell? ⟨g, j, none⟩ = some (.string s) := by
  rcases h.2 with ⟨h1, h0⟩ | ⟨g, cap, cur, h1, _⟩
  · exfalso
    have := h.1
    rw [List.length_map, h0] at this
    have := (List.getElem?_eq_some_iff.1 hj).1
    omega
  · cases h1
    refine ⟨g, rfl, ?_⟩
    have := World.ownsRow.cells h (g := g) rfl j (.string s) (by rw [List.getElem?_map, hj]; rfl)
    rwa [Addr.add_lit, Nat.zero_add] at this
set_option maxRecDepth 100000 in
set_option maxHeartbeats 4000000 in
theorem stexts_any (X : List ByteArray) (v u : Value) (B B' n : Nat) (w : World) (hn : n ≤ 1000000) (HL : Hid (X.length = n)) (HV : Hid (w.ownsRow B 9 1 v n (X.map Value.string))) (HU : Hid (w.ownsRow B' 9 1 u n (X.map Value.string))) :
    Calls Tryd.prog 38 #[v, u] w fun e w' => e = .returned (.bool true) ∧ Below w.heap.size w w' := by
  obtain ⟨A, c, rfl, _⟩ := row_slice HV.out
  obtain ⟨A', c', rfl, _⟩ := row_slice HU.out
  go_enter Tryd.func38, Tryd.ntmps38
  go_wp2
  go_loopw [5] (fun i wr => ∃ q : Nat, i = .int .i64 (q : Int) ∧ q ≤ n ∧ Hid (Below w.heap.size w wr)) (fun i _ => n - (intOf i).toNat)
  case atStart => exact ⟨0, rfl, Nat.zero_le _, Lib.hid (Below.refl _ _)⟩
  case round =>
    obtain ⟨q, rfl, hq, HB⟩ := hrel
    by_cases hlt : q < n
    · obtain ⟨s, hs⟩ : ∃ s, X[q]? = some s := ⟨_, List.getElem?_eq_getElem (by rw [HL.out]; exact hlt)⟩
      obtain ⟨g, rfl, h1⟩ := str_cell (World.ownsRow.kept HV.out (grown_of HB.out) (ne_none _)) hs
      obtain ⟨g', rfl, h2⟩ := str_cell (World.ownsRow.kept HU.out (grown_of HB.out) (ne_none _)) hs
      have e1 : (s.toList != s.toList) = false := by simp
      clear hs
      go_upto_region 6 with fail
      go_region_held3 (fun W => W.cell? ⟨g, q, none⟩ = some (.string s) ∧ W.cell? ⟨g', q, none⟩ = some (.string s)) (first | exact ⟨h1, h2⟩) (fail)
      all_goals
        go_wp2_with fail
        go_roundw
        case rel => exact ⟨q + 1, by go_num, by omega, Lib.hid HB.out.drew⟩
        case measure => simp [intOf]; omega
    · obtain rfl : q = n := by omega
      go_wp2
      go_ret
      exact ⟨rfl, HB.out⟩
/-- slices.Equal of two rows of binders. -/
def BeqPost (X Y : List (Int × Int)) (w : World) (e : Ending) (w' : World) : Prop := e = .returned (.bool (X == Y)) ∧ Below w.heap.size w w'
theorem beq_no {X Y : List (Int × Int)} {q : Nat} {p r : Int × Int} (hp : X[q]? = some p) (hr : Y[q]? = some r) (h : p ≠ r) : (X == Y) = false := by
  rw [beq_eq_false_iff_ne]
  intro e
  rw [e, hr] at hp
  exact h (Option.some.inj hp).symm
/-- A row of binders, or none. -/
def BV (W : World) (A : Option Addr) (X : List (Int × Int)) : Prop := ∀ (q : Nat) (p : Int × Int), X[q]? = some p → ∃ g, A = some ⟨g, 0, none⟩ ∧ W.cell? ⟨g, q * 2, none⟩ = some (.int .i64 p.1) ∧ W.cell? ⟨g, q * 2 + 1, none⟩ = some (.int .i64 p.2)
set_option maxRecDepth 100000 in
set_option maxHeartbeats 8000000 in
theorem seq_any (X Y : List (Int × Int)) (A A' : Option Addr) (n m c c' : Nat) (w : World) (hn : n ≤ 1000000) (hm : m ≤ 1000000) (HX : Hid (X.length = n)) (HY : Hid (Y.length = m)) (HV : Hid (BV w A X)) (HU : Hid (BV w A' Y)) :
    Calls Tryd.prog 65 #[.slice A n c, .slice A' m c'] w (BeqPost X Y w) := by
  by_cases hnm : n = m
  · subst hnm
    go_enter Tryd.func65, Tryd.ntmps65
    go_wp2
    go_loopw [13] (fun i wr => ∃ q : Nat, i = .int .i64 (q : Int) ∧ q ≤ n ∧ Hid (Below w.heap.size w wr) ∧ Hid (∀ a, wr.cell? a = w.cell? a) ∧ Hid (X.take q = Y.take q)) (fun i _ => n - (intOf i).toNat)
    case atStart => exact ⟨0, rfl, Nat.zero_le _, Lib.hid (Below.refl _ _), Lib.hid fun _ => rfl, Lib.hid rfl⟩
    case round =>
      obtain ⟨q, rfl, hq, HB, HC, HT⟩ := hrel
      by_cases hlt : q < n
      · obtain ⟨⟨P1, P2⟩, hp⟩ : ∃ s, X[q]? = some s := ⟨_, List.getElem?_eq_getElem (by rw [HX.out]; exact hlt)⟩
        obtain ⟨⟨R1, R2⟩, hr⟩ : ∃ s, Y[q]? = some s := ⟨_, List.getElem?_eq_getElem (by rw [HY.out]; exact hlt)⟩
        obtain ⟨g, rfl, h1, h2⟩ := HV.out q _ hp
        obtain ⟨g', rfl, h3, h4⟩ := HU.out q _ hr
        rw [← HC.out] at h1 h2 h3 h4
        simp only at h1 h2 h3 h4
        have HNE : Hid (¬ (P1 = R1 ∧ P2 = R2) → (X == Y) = false) := Lib.hid fun h => beq_no hp hr fun e => h ⟨congrArg Prod.fst e, congrArg Prod.snd e⟩
        have HEQ : Hid (P1 = R1 → P2 = R2 → X.take (q + 1) = Y.take (q + 1)) := Lib.hid fun e1 e2 => by rw [take_snoc _ _ _ hp, take_snoc _ _ _ hr, HT.out, e1, e2]
        clear hp hr
        have HC2 : Hid (∀ a, wr.drew.cell? a = w.cell? a) := Lib.hid fun a => HC.out a
        cases t1 : (P1 == R1) with
        | true =>
          obtain rfl : P1 = R1 := by simpa using t1
          cases t2 : (P2 == R2) with
          | true =>
            obtain rfl : P2 = R2 := by simpa using t2
            have HT2 := Lib.hid (HEQ.out rfl rfl)
            go_upto_region 6 with fail
            go_region_held3 (fun W => W.cell? ⟨g, q * 2, none⟩ = some (.int .i64 P1) ∧ W.cell? ⟨g, q * 2 + 1, none⟩ = some (.int .i64 P2) ∧ W.cell? ⟨g', q * 2, none⟩ = some (.int .i64 P1) ∧ W.cell? ⟨g', q * 2 + 1, none⟩ = some (.int .i64 P2)) (first | exact ⟨h1, h2, h3, h4⟩) (fail)
            all_goals
              go_wp2_with fail
              go_roundw
              case rel => exact ⟨q + 1, by go_num, by omega, Lib.hid HB.out.drew, HC2, HT2⟩
              case measure => simp [intOf]; omega
          | false =>
            have HF := Lib.hid (HNE.out fun h => by have := h.2; subst this; simp at t2)
            go_upto_region 6 with fail
            go_region_held3 (fun W => W.cell? ⟨g, q * 2, none⟩ = some (.int .i64 P1) ∧ W.cell? ⟨g, q * 2 + 1, none⟩ = some (.int .i64 P2) ∧ W.cell? ⟨g', q * 2, none⟩ = some (.int .i64 P1) ∧ W.cell? ⟨g', q * 2 + 1, none⟩ = some (.int .i64 R2)) (first | exact ⟨h1, h2, h3, h4⟩) (fail)
            all_goals
              go_wp2_with fail
              go_ret
              exact ⟨by rw [HF.out]; rfl, HB.out.drew⟩
        | false =>
          have HF := Lib.hid (HNE.out fun h => by have := h.1; subst this; simp at t1)
          go_upto_region 6 with fail
          go_region_held3 (fun W => W.cell? ⟨g, q * 2, none⟩ = some (.int .i64 P1) ∧ W.cell? ⟨g, q * 2 + 1, none⟩ = some (.int .i64 P2) ∧ W.cell? ⟨g', q * 2, none⟩ = some (.int .i64 R1) ∧ W.cell? ⟨g', q * 2 + 1, none⟩ = some (.int .i64 R2)) (first | exact ⟨h1, h2, h3, h4⟩) (fail)
          all_goals
            go_wp2_with fail
            go_ret
            exact ⟨by rw [HF.out]; rfl, HB.out.drew⟩
      · obtain rfl : q = n := by omega
        have HE : Hid ((X == Y) = true) := Lib.hid (by
          have h := HT.out
          rw [List.take_of_length_le (by rw [HX.out]; exact Nat.le_refl _), List.take_of_length_le (by rw [HY.out]; exact Nat.le_refl _)] at h
          rw [h]; simp)
        go_wp2
        go_ret
        exact ⟨by rw [HE.out]; rfl, HB.out⟩
  · have HF : Hid ((X == Y) = false) := Lib.hid (by
      rw [beq_eq_false_iff_ne]
      intro e
      have h1 := HX.out
      have h2 := HY.out
      rw [e] at h1
      omega)
    have b1 : (n != m) = true := by simpa using hnm
    have b2 : ((n : Int) != (m : Int)) = true := by simp; omega
    go_enter Tryd.func65, Tryd.ntmps65
    go_wp2
    go_ret
    exact ⟨by rw [HF.out]; rfl, Below.refl _ _⟩
end Go.Proofs.YteikpeaakmbihaaDoor.T
