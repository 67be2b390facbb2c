/- Joined by program: RCopy, RNorm, RSameT. -/
import Derived.Test.YteikpeaakmbihaaDoorG35
import Derived.Test.YteikpeaakmbihaaDoorG34
import Derived.Test.YteikpeaakmbihaaDoorG31
import Derived.Test.YteikpeaakmbihaaDoorG33
/- copyOf, Sub and Norm, the document's. -/
namespace Go.Proofs.YteikpeaakmbihaaDoor.T
open Go.RowKit Go.Shelf
theorem copy_len {l : List Nd} (hk : kidsOk l) {i : Nat} {x : Nd} (hx : l[i]? = some x) (N0 : List Nd) (h : N0.length + (post l i).length ≤ 1000000) :
    (∀ (q m : Nat), (kids x)[q]? = some (m : Int) → (cps l (N0, []) ((kids x).take q)).1.length + (post l m).length ≤ 1000000) ∧ (cps l (N0, []) (kids x)).1.length + 1 ≤ 1000000 ∧ ∀ q, q ≤ (kids x).length → (cps l (N0, []) ((kids x).take q)).2.length = q := by
  have ha := hk _ _ hx
  have hi := lt_of_some hx
  have hc : ∀ k ∈ kids x, ∀ out : List Nd, (cp l k.toNat out).length = out.length + (post l k.toNat).length := fun k hk1 out => cp_len hk k.toNat (by have := toNat_lt (ha k hk1); omega) out
  rw [post_eq hx ha, List.length_append] at h
  simp only [List.length_singleton] at h
  refine ⟨fun q m hm => ?_, ?_, fun q hq => ?_⟩
  · rw [(cps_len _ _ fun k hk1 => hc k (List.mem_of_mem_take hk1)).1]
    have hsum : ((kids x).flatMap fun k => post l k.toNat).length = (((kids x).take q).flatMap fun k => post l k.toNat).length + (post l m).length + (((kids x).drop (q + 1)).flatMap fun k => post l k.toNat).length := by
      conv => lhs; rw [← List.take_append_drop (q + 1) (kids x), take_snoc _ _ _ hm]
      simp [List.flatMap_append]
      omega
    simp only at *
    omega
  · rw [(cps_len _ _ hc).1]
    simp only at *
    omega
  · rw [(cps_len _ _ fun k hk1 => hc k (List.mem_of_mem_take hk1)).2]
    simp; omega
/-- A node's nine cells. -/
def NC (W : World) (b o : Nat) (x : Nd) (v : Value) : Prop := W.cell? ⟨b, o, none⟩ = some (.int .i64 x.kind) ∧ W.cell? ⟨b, o + 1, none⟩ = some (.int .i64 x.a) ∧ W.cell? ⟨b, o + 2, none⟩ = some (.int .i64 x.b) ∧ W.cell? ⟨b, o + 3, none⟩ = some (.int .i64 x.c) ∧ W.cell? ⟨b, o + 4, none⟩ = some (.int .i64 x.n) ∧
  W.cell? ⟨b, o + 5, none⟩ = some (.string x.nm) ∧ W.cell? ⟨b, o + 6, none⟩ = some (.string x.s) ∧ W.cell? ⟨b, o + 7, none⟩ = some v ∧ W.cell? ⟨b, o + 8, none⟩ = some (.int .i64 x.pos)
theorem NC.below {B : Nat} {W W' : World} {b o : Nat} {x : Nd} {v : Value} (h : NC W b o x v) (hb : Below B W W') (hlt : b < B) : NC W' b o x v := by
  have e : ∀ k, W'.cell? ⟨b, k, none⟩ = W.cell? ⟨b, k, none⟩ := fun k => hb.cell (p := ⟨b, k, none⟩) hlt
  obtain ⟨h0, h1, h2, h3, h4, h5, h6, h7, h8⟩ := h
  exact ⟨(e _).trans h0, (e _).trans h1, (e _).trans h2, (e _).trans h3, (e _).trans h4, (e _).trans h5, (e _).trans h6, (e _).trans h7, (e _).trans h8⟩
theorem CSt.start {B : Nat} {w w1 : World} {v : Value} {ps : List (Nd × Value)} {K : List Int} {g c : Nat} {bx : Value} (hB : B ≤ w.heap.size) (hO : OwnN B w v ps) (hi : Ints (w.heap.size + 1) w1 (.slice (some ⟨g, 0, none⟩) K.length c) K) (hb : Below (w.heap.size + 1) (w.alloc (.cells #[bx] 24)) w1) :
    CSt (ps.map Prod.fst) [] K B w1.heap.size w (w1.alloc (.cells #[] 3)) v (.slice (some ⟨w1.heap.size, 0, none⟩) 0 0) g K.length c 0 bx := by
  have hs := hb.size
  simp only [World.size_alloc] at hs
  have hgl := hi.lt g rfl
  have hb1 : Below (w.alloc (.cells #[bx] 24)).heap.size (w.alloc (.cells #[bx] 24)) w1 := by simpa using hb
  have k1 : Kp B w w1 := (Kp.alloc B w _ hB).trans (Kp.of hb1 (by simp; omega))
  refine ⟨⟨ps, rfl, ownN_grow (ownN_grow (ownN_grow hO (grown_alloc w _)) (grown_of hb1)) (grown_alloc _ _)⟩, World.ownsRow_made _ _ _ (Nat.le_refl _) (by decide) rfl, k1.trans (Kp.alloc B w1 _ (by omega)), row_mono (hi.alloc _) (by omega), hgl.2, ?_, by omega, by simp, hB⟩
  exact nextAt ((hb.block _ (by omega)).trans (newAt rfl))
set_option maxRecDepth 100000 in
set_option maxHeartbeats 8000000 in
theorem copyOf_any (l : List Nd) (L c b o B : Nat) (HL : Hid (l.length = L)) (_hL : L ≤ 100000) (HKO : Hid (kidsOk l)) (HLL : Hid (∀ x ∈ l, x.l.length ≤ 1000000)) (hbB : b < B) :
    ∀ i, i < L → ∀ (w : World) (v : Value) (ps : List (Nd × Value)), B ≤ w.heap.size → NdsAt B w b o l → OwnN B w v ps → ps.length + (post l i).length ≤ 1000000 →
      Calls Tryd.prog 52 #[.agg #[.slice (some ⟨b, o, none⟩) L c], .int .i64 (i : Int), v] w (CpPost (cp l i (ps.map Prod.fst)) B w) := by
  intro i
  induction i using Nat.strongRecOn with
  | ind i ih =>
    intro hi w v ps hB hN hO hlen
    have HN := Lib.hid hN
    obtain ⟨x, hx⟩ : ∃ x, l[i]? = some x := ⟨_, List.getElem?_eq_getElem (by rw [HL.out]; exact hi)⟩
    have ha := HKO.out i x hx
    obtain ⟨fv, hfl, hnc⟩ := HN.out i x hx
    have HFL := Lib.hid hfl
    have HNC : Hid (NC w b (o + i * 9) x fv) := Lib.hid hnc
    obtain ⟨FA, fc, rfl, _⟩ := hfl
    obtain ⟨VA, vc, rfl⟩ := own_slice hO
    obtain ⟨hb1, hb2, hb3⟩ := copy_len HKO.out hx (ps.map Prod.fst) (by rw [List.length_map]; exact hlen)
    have HCP : Hid (cp l i (ps.map Prod.fst) = (cps l (ps.map Prod.fst, []) (kids x)).1 ++ [wk x (cps l (ps.map Prod.fst, []) (kids x)).2]) := Lib.hid (cp_eq hx ha _)
    have HWI : Hid (∀ (w1 : World) (ks : List Int) (g cg n : Nat), Below B w w1 → ks.length = n → ks.length = (kids x).length → Rw w1 g ks → Calls Tryd.prog 53 #[.agg (ndArr x (.slice FA x.l.length fc)), .slice (some ⟨g, 0, none⟩) n cg] w1 (RWPost (wk x ks) w1)) := Lib.hid fun w1 ks g cg n hb hn hk hr => rwith_any x _ ks g cg n w1 hn ((HFL.out.below hb).mono (by have := hb.size; omega)) (HLL.out x (List.mem_of_getElem? hx)) hk hr
    have HKD : Hid (Calls Tryd.prog 17 #[.agg (ndArr x (.slice FA x.l.length fc))] (w.alloc (.cells #[.slice (some ⟨b, o, none⟩) L c] 24)) (KidsPost (kids x) (w.heap.size + 1) (w.alloc (.cells #[.slice (some ⟨b, o, none⟩) L c] 24)))) := Lib.hid (kids_any x _ _ (by simp) ((HFL.out.below ((Below.refl B w).alloc hB _)).mono (by simp; omega)) (HLL.out x (List.mem_of_getElem? hx)))
    have hkl : (kids x).length ≤ 1000003 := by have := kids_len x; have := HLL.out x (List.mem_of_getElem? hx); omega
    obtain ⟨N0, hN0⟩ : ∃ N0, ps.map Prod.fst = N0 := ⟨_, rfl⟩
    have HO := Lib.hid hO
    have HN0 := Lib.hid hN0
    rw [hN0] at HCP hb1 hb2 hb3 ⊢
    obtain ⟨K, hK⟩ : ∃ K, kids x = K := ⟨_, rfl⟩
    rw [hK] at HKD HCP HWI hb1 hb2 hb3 hkl
    have HAH : Hid (∀ m ∈ K, 0 ≤ m ∧ m < (i : Int)) := Lib.hid (by rw [← hK]; exact ha)
    have HB1 := Lib.hid hb1
    have HB3 := Lib.hid hb3
    obtain ⟨KL, hKL⟩ : ∃ KL, K.length = KL := ⟨_, rfl⟩
    have HKL := Lib.hid hKL
    rw [hKL] at hkl
    have HKE : Hid (Calls Tryd.prog 17 #[.agg (ndArr x (.slice FA x.l.length fc))] (w.alloc (.cells #[.slice (some ⟨b, o, none⟩) L c] 24)) fun e w1 => ∃ g c1, e = .returned (.slice (some ⟨g, 0, none⟩) KL c1) ∧ Ints (w.heap.size + 1) w1 (.slice (some ⟨g, 0, none⟩) K.length c1) K ∧ Below (w.heap.size + 1) (w.alloc (.cells #[.slice (some ⟨b, o, none⟩) L c] 24)) w1) := Lib.hid (HKD.out.mono (by rintro e w1 ⟨g, c1, rfl, h⟩; exact ⟨g, c1, by rw [hKL], h⟩))
    have HIH : Hid (∀ m, m < i → ∀ (w1 : World) (v1 : Value) (N1 : List Nd), Below B w w1 → (∃ ps1, ps1.map Prod.fst = N1 ∧ OwnN B w1 v1 ps1) → N1.length + (post l m).length ≤ 1000000 → Calls Tryd.prog 52 #[.agg #[.slice (some ⟨b, o, none⟩) L c], .int .i64 (m : Int), v1] w1 (CpPost (cp l m N1) B w1)) := Lib.hid fun m hm w1 v1 N1 hb ⟨ps1, hp, ho⟩ hl => by
      subst hp
      exact ih m hm (by omega) w1 v1 ps1 (Nat.le_trans hB hb.size) (HN.out.below hb hbB) ho (by rw [List.length_map] at hl; exact hl)
    obtain ⟨i0, hi0, hz0, hz1, hz2⟩ := info_parts intInfo
    obtain ⟨j0, hj0, hy0, hy1, hy2⟩ := info_parts ndInfo
    have mm : ∀ o1 : Obj, NC (w.alloc o1) b (o + i * 9) x (.slice FA x.l.length fc) := fun o1 => HNC.out.below ((Below.refl w.heap.size w).alloc (Nat.le_refl _) o1) (by omega)
    have m0 := fun o1 => (mm o1).1
    have m1 := fun o1 => (mm o1).2.1
    have m2 := fun o1 => (mm o1).2.2.1
    have m3 := fun o1 => (mm o1).2.2.2.1
    have m4 := fun o1 => (mm o1).2.2.2.2.1
    have m5 := fun o1 => (mm o1).2.2.2.2.2.1
    have m6 := fun o1 => (mm o1).2.2.2.2.2.2.1
    have m7 := fun o1 => (mm o1).2.2.2.2.2.2.2.1
    have m8 := fun o1 => (mm o1).2.2.2.2.2.2.2.2
    clear ih hx ha hK hb1 hb3 hN mm hN0 hO hKL hnc
    go_enter Tryd.func52, Tryd.ntmps52
    go_wp2_with (go_at_call 17; refine HKE.out.mono ?_; rintro e w1 ⟨g1, c1, rfl, hi1, hb1⟩; have HI1 := Lib.hid hi1; have HBW := Lib.hid hb1; clear hi1 hb1)
    go_loopw [2, 8, 9] (fun out kd j wr => ∃ q gu cu : Nat, kd = .slice (some ⟨gu, 0, none⟩) q cu ∧ j = .int .i64 (q : Int) ∧ q ≤ KL ∧ Hid (CSt (cps l (N0, []) (K.take q)).1 (cps l (N0, []) (K.take q)).2 K B w1.heap.size w wr out (.slice (some ⟨gu, 0, none⟩) q cu) g1 KL c1 q (.slice (some ⟨b, o, none⟩) L c))) (fun _ _ j _ => KL - (intOf j).toNat)
    case atStart =>
      refine ⟨0, _, _, rfl, rfl, by omega, Lib.hid ?_⟩
      have h := CSt.start hB HO.out HI1.out HBW.out
      rw [HKL.out, HN0.out] at h
      exact h
    case round =>
      obtain ⟨q, gu, cu, rfl, rfl, hq, HS⟩ := hrel
      have cb := HS.out.box
      have HBB : Hid (Below B w wr) := Lib.hid HS.out.2.2.1.1
      have hsw := HS.out.2.2.2.2.2.2.1
      have hsr := HS.out.2.2.2.2.2.2.2.1
      obtain ⟨ps1, hp1, ho1⟩ := HS.out.1
      obtain ⟨A1, k1, rfl⟩ := own_slice ho1
      by_cases hlt : q < KL
      · obtain ⟨kz, hkz⟩ : ∃ kz, K[q]? = some kz := ⟨_, List.getElem?_eq_getElem (by rw [HKL.out]; exact hlt)⟩
        obtain ⟨m, rfl⟩ : ∃ m : Nat, kz = (m : Int) := ⟨kz.toNat, by have := HAH.out kz (List.mem_of_getElem? hkz); omega⟩
        have hmi : m < i := by have := HAH.out _ (List.mem_of_getElem? hkz); omega
        have ck : wr.cell? ⟨g1, q, none⟩ = some (.int .i64 (m : Int)) := HS.out.at hkz
        have HC := Lib.hid (HIH.out m hmi wr.drew _ _ HBB.out.drew ⟨ps1, hp1, ownN_grow ho1 (grown_of (Below.refl wr.heap.size wr).drew)⟩ (HB1.out q m hkz))
        have hlen5 := cp_len HKO.out m (by have := HL.out; omega) (cps l (N0, []) (K.take q)).1
        have hb5 := HB1.out q m hkz
        obtain ⟨n5, hn5⟩ : ∃ n5, (cp l m (cps l (N0, []) (K.take q)).1).length = n5 := ⟨_, rfl⟩
        have hn6 : n5 ≤ 1000000 := by omega
        have HSN : Hid (cps l (N0, []) (K.take (q + 1)) = (cp l m (cps l (N0, []) (K.take q)).1, (cps l (N0, []) (K.take q)).2 ++ [(n5 : Int) - 1])) := Lib.hid (by rw [take_snoc K q _ hkz, cps_snoc]; simp only [Int.toNat_natCast]; rw [hn5])
        have HN5 := Lib.hid hn5
        clear hkz hlen5 hb5 hn5 hp1
        go_wp2_with fail
        go_region_with (go_at_call 52; refine HC.out.mono ?_; rintro e w5 ⟨v5, ps5, rfl, hp5, ho5, hg5⟩; obtain ⟨A5, k5, rfl⟩ : ∃ A5 k5, v5 = .slice A5 n5 k5 := (own_slice_len ho5 hp5 rfl HN5.out); have HS5 := Lib.hid (HS.out.drew.call hp5 ho5 hg5); have hsr5 := HS5.out.2.2.2.2.2.2.2.1; clear hp5 ho5 hg5)
        all_goals
          go_wp2_with (at_builtin; refine wpList_append_own _ rfl _ _ 34 rfl w1.heap.size 3 i0 (.int .i64 0) 1 8 Tryd.underlying34 hi0 hz0 hz1 hz2 rfl (by decide) _ q _ rfl (HS5.out.2.1.alloc _) ⟨w5.heap.size, 0, none⟩ 1 1 [.int .i64 ((n5 : Int) - 1)] rfl rfl (new1 w5 3 _) (fun u hu => by rw [List.mem_singleton.1 hu]; rfl) (by unfold maxLen; omega) (by omega) (by simp; omega) ?_; intro v6 w6 hown6 hgrow6 _; obtain ⟨g6, c6, rfl⟩ := ownsRow_succ hown6; have HS6 := Lib.hid (HS5.out.app hown6 hgrow6); clear hown6 hgrow6)
          go_roundw
          case rel =>
            refine ⟨q + 1, _, _, rfl, by go_num, by omega, Lib.hid ?_⟩
            rw [HSN.out]; exact HS6.out
          case measure => simp [intOf]; omega
      · obtain rfl : q = KL := by omega
        have htk : K.take q = K := List.take_of_length_le (by rw [HKL.out]; exact Nat.le_refl _)
        have hjl := HB3.out q (by rw [HKL.out]; exact Nat.le_refl _)
        rw [htk] at HS hp1 hjl
        have hpl : ps1.length ≤ 999999 := by have := congrArg List.length hp1; rw [List.length_map] at this; omega
        have hRK : Rw wr gu (cps l (N0, []) K).2 := by
          have h := HS.out.2.1
          have hi2 : Ints w1.heap.size wr (.slice (some ⟨gu, 0, none⟩) (cps l (N0, []) K).2.length cu) (cps l (N0, []) K).2 := by unfold Ints; rw [hjl]; exact h
          exact Rw.of hi2
        have HCW := Lib.hid (HWI.out wr (cps l (N0, []) K).2 gu cu q HBB.out hjl (by rw [hjl]; exact HKL.out.symm) hRK)
        obtain ⟨n0, n1', n2, n3, n4, n5, n6, n7, n8⟩ := HNC.out.below HBB.out hbB
        have HP1 := Lib.hid hp1
        have HO1 := Lib.hid ho1
        obtain ⟨y, hy⟩ : ∃ y, wk x (cps l (N0, []) K).2 = y := ⟨_, rfl⟩
        rw [hy] at HCW HCP
        clear hp1 ho1 hRK hjl htk hy
        have HCX : Hid (Calls Tryd.prog 53 #[.agg #[.int .i64 x.kind, .int .i64 x.a, .int .i64 x.b, .int .i64 x.c, .int .i64 x.n, .string x.nm, .string x.s, .slice FA x.l.length fc, .int .i64 x.pos], .slice (some ⟨gu, 0, none⟩) q cu] wr fun e w6 => ∃ Ay ny ky, e = .returned (.agg #[.int .i64 y.kind, .int .i64 y.a, .int .i64 y.b, .int .i64 y.c, .int .i64 y.n, .string y.nm, .string y.s, .slice Ay ny ky, .int .i64 y.pos]) ∧ OwnF wr.heap.size w6 (.slice Ay ny ky) y.l ∧ Below wr.heap.size wr w6) := Lib.hid (by
          refine Calls.mono HCW.out ?_
          rintro e w6 ⟨vy, rfl, hf6, hb6⟩
          obtain ⟨Ay, ky, rfl, _⟩ := row_slice hf6
          exact ⟨Ay, _, ky, rfl, hf6, hb6⟩)
        clear HCW
        go_wp2_with (first
          | (go_at_call 53; refine HCX.out.mono ?_; rintro e w6 ⟨Ay, ny, ky, rfl, hf6, hb6⟩; have HF6 := Lib.hid hf6; have HB6 := Lib.hid hb6; have HR6 := Lib.hid ((ownN_grow HO1.out (grown_of hb6)).1.alloc (.cells (ndArr y (.slice Ay ny ky)) 27)); have HC6 := Lib.hid (new_cellsT w6 27 (ndArr y (.slice Ay ny ky)).toList w6.heap.size rfl); have hs6 := hb6.size; clear hf6 hb6)
          | (at_builtin; refine wpList_append_own _ rfl _ _ 22 rfl B 27 j0 (.agg #[.int .i64 0, .int .i64 0, .int .i64 0, .int .i64 0, .int .i64 0, .string ⟨#[]⟩, .string ⟨#[]⟩, .slice none 0 0, .int .i64 0]) 9 104 Tryd.underlying22 hj0 hy0 hy1 hy2 rfl (by decide) _ ps1.length _ rfl HR6.out ⟨w6.heap.size, 0, none⟩ 1 1 ((ndArr y (.slice Ay ny ky)).toList) rfl rfl HC6.out (nd_one _ _ _ _) (by unfold maxLen; omega) (by omega) (by simp; omega) ?_; intro v7 w7 hown7 hgrow7 _; obtain ⟨g7, c7, rfl⟩ := ownsRow_succ hown7; have HE7 := Lib.hid (HS.out.fin HP1.out HO1.out rfl HF6.out HB6.out hown7 hgrow7); clear hown7 hgrow7))
        go_ret
        rw [HCP.out]
        exact HE7.out
end Go.Proofs.YteikpeaakmbihaaDoor.T
/- Sub, Norm, SameList, the document's. -/
namespace Go.Proofs.YteikpeaakmbihaaDoor.T
open Go.RowKit Go.Shelf
/-- What is made of nodes: an Expr of the call's own. -/
def NPost (N : List Nd) (w : World) (e : Ending) (w' : World) : Prop := ∃ A c ps, e = .returned (.agg #[.slice A N.length c]) ∧ ps.map Prod.fst = N ∧ OwnN w.heap.size w' (.slice A N.length c) ps ∧ Below w.heap.size w w'
theorem NPost.nodes {N : List Nd} {w : World} {f : Nat} {args : Array Value} (h : Calls Tryd.prog f args w (NPost N w)) : Calls Tryd.prog f args w fun e w' => ∃ A c, e = .returned (.agg #[.slice A N.length c]) ∧ Nodes w'.heap.size w' (.slice A N.length c) N ∧ Below w.heap.size w w' := by
  refine Calls.mono h ?_
  rintro e w' ⟨A, c, ps, rfl, hp, ho, hb⟩
  have hn := own_nodes ho
  rw [hp] at hn
  exact ⟨A, c, rfl, hn, hb⟩
theorem res26 (tmps : Array Value) (W : World) (p : Nat) (A : Option Addr) (n c : Nat) (h2 : tmps[4]?.getD undef = .pointer (some ⟨p, 0, none⟩)) (hb : W.cell? ⟨p, 0, none⟩ = some (.slice A n c)) :
    Sem.run Tryd.prog (results Tryd.f26 tmps) W = .ok (.agg #[.slice A n c]) W := by
  simp [results, Tryd.results26, go_sem, h2, hb]
theorem res25 (tmps : Array Value) (W : World) (p : Nat) (A : Option Addr) (n c : Nat) (h2 : tmps[2]?.getD undef = .pointer (some ⟨p, 0, none⟩)) (hb : W.cell? ⟨p, 0, none⟩ = some (.slice A n c)) :
    Sem.run Tryd.prog (results Tryd.f25 tmps) W = .ok (.agg #[.slice A n c]) W := by
  simp [results, Tryd.results25, go_sem, h2, hb]
theorem ownN_low {B B' : Nat} {W : World} {v : Value} {ps : List (Nd × Value)} (h : OwnN B' W v ps) (hB : B ≤ B') : OwnN B W v ps := ⟨row_mono h.1 hB, fun x hx => row_mono (h.2 x hx) hB⟩
set_option maxRecDepth 100000 in
set_option maxHeartbeats 4000000 in
theorem rsub_any (l N : List Nd) (A : Option Addr) (c : Nat) (i : Nat) (hN : cp l i [] = N) (hm : may l = 0) (hi : i < l.length) (w : World) (hv : Nodes w.heap.size w (.slice A l.length c) l) (HS : ∀ x ∈ l, Small x) :
    Calls Tryd.prog 26 #[.agg #[.slice A l.length c], .int .i64 (i : Int)] w (NPost N w) := by
  obtain ⟨h1, h6⟩ := may_big hm
  have hf := (may_zero hm).2.1
  have hk : kidsOk l := hf.2.1
  have hn : (allKids l).Nodup := hf.2.2.1.1
  have hpl := post_len hk hn hi
  obtain ⟨A', c', e, hc, _, hq⟩ := hv
  cases e
  obtain ⟨b, o, rfl, hb, hnd⟩ := hq (by omega)
  obtain ⟨L, hL⟩ : ∃ L, l.length = L := ⟨_, rfl⟩
  obtain ⟨W2, hW2⟩ : ∃ W2, (w.alloc (.cells #[.slice (some ⟨b, o, none⟩) L c] 24)).alloc (.cells #[.slice none 0 0] 24) = W2 := ⟨_, rfl⟩
  have hB2 : Below w.heap.size w W2 := by rw [← hW2]; exact ((Below.refl _ w).alloc (Nat.le_refl _) _).alloc (by simp) _
  have hs2 : W2.heap.size = w.heap.size + 2 := by rw [← hW2]; simp
  have hc2 : W2.heap[w.heap.size + 1]? = some (.cells #[.slice none 0 0] 24 (0, 0)) := by rw [← hW2]; exact newAt (by simp)
  have hnd2 : NdsAt W2.heap.size W2 b o l := (NdsAt.below hnd hB2 hb).mono hB2.size
  have HC := Lib.hid (copyOf_any l L c b o W2.heap.size (Lib.hid hL) (by omega) (Lib.hid hk) (Lib.hid fun x hx => (HS x hx).2.2.1) (by omega) i (by omega) W2 (.slice none 0 0) [] (Nat.le_refl _) hnd2 (ownN_nil _ _) (by simp; omega))
  have HB2 := Lib.hid hB2
  have HS2 := Lib.hid hs2
  have HC2 := Lib.hid hc2
  rw [List.map_nil, hN] at HC
  rw [hL]
  rw [← hW2] at HC HC2 HB2 HS2
  clear hW2 hB2 hs2 hc2 hnd2 hnd hN hq hk hn hf
  go_enter Tryd.func26, Tryd.ntmps26
  go_wp2_with (go_at_call 52; refine HC.out.mono ?_; rintro e w1 ⟨v1, ps, rfl, hps, hown, hkp⟩; obtain ⟨A1, k1, rfl⟩ := own_slice_len hown hps rfl rfl; have hx1 := (hkp.1.block (w.heap.size + 1) (by simp)).trans HC2.out; have f1 := Blk_frozen hx1 0; have c1 : w1.cell? ⟨w.heap.size + 1, 0, none⟩ = some (.slice none 0 0) := (Blk_cell hx1 0).trans rfl; have HX1 := Lib.hid hx1; have HO1 := Lib.hid hown; have HP1 := Lib.hid hps; have HK1 := Lib.hid hkp; clear hx1 hown hps hkp)
  have hx := blk_put (j := 0) (v := .slice A1 N.length k1) HX1.out
  refine bodyPost_ret (v := .agg #[.slice A1 N.length k1]) (res26 _ _ (w.heap.size + 1) A1 N.length k1 rfl ((Blk_cell hx 0).trans rfl)) rfl ⟨_, _, ps, rfl, HP1.out, ?_, ?_⟩
  · have h := ownN_heap (W' := w1.setCell ⟨w.heap.size + 1, 0, none⟩ (.slice A1 N.length k1)) HO1.out (fun g hg _ => set_far _ _ _ _ _ (by simp at hg; omega))
    exact ownN_low h (by simp; omega)
  · exact (HB2.out.trans (HK1.out.1.mono (by simp; omega))).setCell (p := ⟨w.heap.size + 1, 0, none⟩) (by show w.heap.size ≤ w.heap.size + 1; omega) _
set_option maxRecDepth 100000 in
set_option maxHeartbeats 4000000 in
theorem rnorm_any (l N : List Nd) (A : Option Addr) (c : Nat) (hN : nrm l = N) (hm : may l = 0) (w : World) (hv : Nodes w.heap.size w (.slice A l.length c) l) (HS : ∀ x ∈ l, Small x) :
    Calls Tryd.prog 25 #[.agg #[.slice A l.length c]] w (NPost N w) := by
  obtain ⟨h1, h6⟩ := may_big hm
  obtain ⟨W2, hW2⟩ : ∃ W2, (w.alloc (.cells #[.slice A l.length c] 24)).alloc (.cells #[.slice none 0 0] 24) = W2 := ⟨_, rfl⟩
  have hB2 : Below w.heap.size w W2 := by rw [← hW2]; exact ((Below.refl _ w).alloc (Nat.le_refl _) _).alloc (by simp) _
  have hs2 : W2.heap.size = w.heap.size + 2 := by rw [← hW2]; simp
  have hc2 : W2.heap[w.heap.size + 1]? = some (.cells #[.slice none 0 0] 24 (0, 0)) := by rw [← hW2]; exact newAt (by simp)
  have hcall := rsub_any l N A c (l.length - 1) (by rw [← hN, nrm, if_pos hm]) hm (by omega) W2 ((hv.below hB2).mono hB2.size) HS
  rw [show ((l.length - 1 : Nat) : Int) = (l.length : Int) - 1 by omega] at hcall
  have HC := Lib.hid hcall
  have HB2 := Lib.hid hB2
  have HC2 := Lib.hid hc2
  rw [← hW2] at HC HC2 HB2
  clear hcall hW2 hB2 hs2 hc2 hN hv HS
  go_enter Tryd.func25, Tryd.ntmps25
  go_wp2_with (go_at_call 26; refine HC.out.mono ?_; rintro e w1 ⟨A1, k1, ps, rfl, hps, hn1, hb1⟩; have HP1 := Lib.hid hps; have hx1 := (hb1.block (w.heap.size + 1) (by simp)).trans HC2.out; have f1 := Blk_frozen hx1 0; have c1 : w1.cell? ⟨w.heap.size + 1, 0, none⟩ = some (.slice none 0 0) := (Blk_cell hx1 0).trans rfl; have HX1 := Lib.hid hx1; have HN1 := Lib.hid hn1; have HB1 := Lib.hid hb1; clear hx1 hn1 hb1 hps)
  have hx := blk_put (j := 0) (v := .slice A1 N.length k1) HX1.out
  refine bodyPost_ret (v := .agg #[.slice A1 N.length k1]) (res25 _ _ (w.heap.size + 1) A1 N.length k1 rfl ((Blk_cell hx 0).trans rfl)) rfl ⟨_, _, ps, rfl, HP1.out, ?_, ?_⟩
  · have h := ownN_heap (W' := w1.setCell ⟨w.heap.size + 1, 0, none⟩ (.slice A1 N.length k1)) HN1.out (fun g hg _ => set_far _ _ _ _ _ (by simp at hg; omega))
    exact ownN_low h (by simp; omega)
  · exact (HB2.out.trans (HB1.out.mono (by simp; omega))).setCell (p := ⟨w.heap.size + 1, 0, none⟩) (by show w.heap.size ≤ w.heap.size + 1; omega) _
set_option maxRecDepth 100000 in
set_option maxHeartbeats 8000000 in
theorem rlist_pos (l m : List Nd) (L c1 c2 : Nat) (A C : Option Addr) (HL : Hid (l.length = L)) (HM : Hid (m.length = L)) (hL : L ≤ 1000000) (w : World) (HP : Hid (0 < L → ∃ b1 o1 b2 o2, A = some (⟨b1, o1, none⟩ : Addr) ∧ C = some (⟨b2, o2, none⟩ : Addr) ∧ b1 < w.heap.size ∧ b2 < w.heap.size ∧ NdsAt w.heap.size w b1 o1 l ∧ NdsAt w.heap.size w b2 o2 m)) (HS1 : Hid (∀ x ∈ l, x.l.length ≤ 1000000)) :
    Calls Tryd.prog 24 #[.agg #[.slice A L c1], .agg #[.slice C L c2]] w fun e w' => e = .returned (.bool (lns l m)) ∧ Below w.heap.size w w' := by
  obtain ⟨W2, hW2⟩ : ∃ W2, (w.alloc (.cells #[.slice A L c1] 24)).alloc (.cells #[.slice C L c2] 24) = W2 := ⟨_, rfl⟩
  have HB2 : Hid (Below w.heap.size w W2) := Lib.hid (by rw [← hW2]; exact ((Below.refl _ w).alloc (Nat.le_refl _) _).alloc (by simp) _)
  have HX0 : Hid (W2.heap[w.heap.size]? = some (.cells #[.slice A L c1] 24 (0, 0))) := Lib.hid (by rw [← hW2]; exact nextAt (newAt rfl))
  have HY0 : Hid (W2.heap[w.heap.size + 1]? = some (.cells #[.slice C L c2] 24 (0, 0))) := Lib.hid (by rw [← hW2]; exact newAt (by simp))
  have HW2 := Lib.hid hW2
  have hs2 : W2.heap.size = w.heap.size + 2 := by rw [← hW2]; simp
  clear hW2
  go_enter Tryd.func24, Tryd.ntmps24
  go_wp2
  go_loopw [5] (fun i wr => ∃ q : Nat, i = .int .i64 (q : Int) ∧ q ≤ L ∧ Hid (∀ (j : Nat) (x y : Nd), j < q → l[j]? = some x → m[j]? = some y → sn x y = true) ∧ Hid (Below W2.heap.size W2 wr)) (fun i _ => L - (intOf i).toNat)
  case atStart => exact ⟨0, rfl, Nat.zero_le _, Lib.hid (fun j f g h => absurd h (by omega)), Lib.hid (by rw [HW2.out]; exact Below.refl _ _)⟩
  case round =>
    obtain ⟨q, rfl, hq, HA, HB⟩ := hrel
    have hsz := HB.out.size
    have hx0 := (HB.out.block w.heap.size (by omega)).trans HX0.out
    have hy0 := (HB.out.block (w.heap.size + 1) (by omega)).trans HY0.out
    have cx : wr.cell? ⟨w.heap.size, 0, none⟩ = some (.slice A L c1) := (Blk_cell hx0 0).trans rfl
    have cy : wr.cell? ⟨w.heap.size + 1, 0, none⟩ = some (.slice C L c2) := (Blk_cell hy0 0).trans rfl
    have HBW : Hid (Below w.heap.size w wr) := Lib.hid (HB2.out.trans (HB.out.mono (by omega)))
    clear hx0 hy0
    by_cases hlt : q < L
    · obtain ⟨b1, o1, b2, o2, rfl, rfl, hb1, hb2, hf1, hf2⟩ := HP.out (by omega)
      obtain ⟨x, hx⟩ : ∃ x, l[q]? = some x := ⟨_, List.getElem?_eq_getElem (by rw [HL.out]; exact hlt)⟩
      obtain ⟨y, hy⟩ : ∃ y, m[q]? = some y := ⟨_, List.getElem?_eq_getElem (by rw [HM.out]; exact hlt)⟩
      obtain ⟨fv, hfl, m0, m1, m2, m3, m4, m5, m6, m7, m8⟩ := (hf1.below HBW.out hb1) q x hx
      obtain ⟨gv, hgl, n0, n1, n2, n3, n4, n5, n6, n7, n8⟩ := (hf2.below HBW.out hb2) q y hy
      have HE : Hid (∀ w1, Below wr.heap.size wr w1 → Calls Tryd.prog 51 #[.agg (ndArr x fv), .agg (ndArr y gv)] w1 fun e w' => e = .returned (.bool (sn x y)) ∧ Below w1.heap.size w1 w') := Lib.hid fun w1 hb => rsn_any x y fv gv w1 (((hfl.mono (by omega)).below hb).mono hb.size) (((hgl.mono (by omega)).below hb).mono hb.size) (HS1.out x (List.mem_of_getElem? hx))
      obtain ⟨FA, fc, rfl, _⟩ := hfl
      obtain ⟨GA, gc, rfl, _⟩ := hgl
      have HX := Lib.hid hx
      have HY := Lib.hid hy
      obtain ⟨t, ht⟩ : ∃ t, sn x y = t := ⟨_, rfl⟩
      rw [ht] at HE
      have HT := Lib.hid ht
      clear hx hy ht hf1 hf2
      cases t with
      | false =>
        go_wp2_with fail
        go_region_with (go_at_call 51; refine (HE.out _ (Below.refl _ _).drew).mono ?_; rintro e w1 ⟨rfl, hb⟩; have HBB := Lib.hid (Below.trans (Below.refl wr.heap.size wr).drew hb); clear hb)
        all_goals
          go_wp2
          go_ret
          exact ⟨ret_b (lns_no HX.out HY.out HT.out).symm, HBW.out.trans (HBB.out.mono (by omega))⟩
      | true =>
        go_wp2_with fail
        go_region_with (go_at_call 51; refine (HE.out _ (Below.refl _ _).drew).mono ?_; rintro e w1 ⟨rfl, hb⟩; have HBB := Lib.hid (Below.trans (Below.refl wr.heap.size wr).drew hb); clear hb)
        all_goals
          go_wp2
          go_roundw
          case rel =>
            refine ⟨q + 1, by go_num, by omega, Lib.hid ?_, Lib.hid (HB.out.trans (HBB.out.mono hsz))⟩
            intro j f' g' hj hf' hg'
            by_cases e : j = q
            · subst e
              rw [HX.out] at hf'; rw [HY.out] at hg'
              injection hf' with hf'; injection hg' with hg'
              subst hf' hg'; exact HT.out
            · exact HA.out j f' g' (by omega) hf' hg'
          case measure => simp [intOf]; omega
    · obtain rfl : q = L := by omega
      have HR : Hid (lns l m = true) := Lib.hid (lns_yes (fun j f g h1 h2 => HA.out j f g (by have := lt_of_some h1; rw [HL.out] at this; exact this) h1 h2) (by rw [HL.out, HM.out]))
      go_wp2
      go_ret
      exact ⟨ret_b HR.out.symm, HBW.out⟩
set_option maxHeartbeats 1000000 in
theorem rlist_len (L M c1 c2 : Nat) (A C : Option Addr) (hne : ¬ L = M) (w : World) :
    Calls Tryd.prog 24 #[.agg #[.slice A L c1], .agg #[.slice C M c2]] w fun e w' => e = .returned (.bool false) ∧ Below w.heap.size w w' := by
  have hb : ((L : Int) != (M : Int)) = true := by simpa using (by omega : ¬ (L : Int) = (M : Int))
  go_enter Tryd.func24, Tryd.ntmps24
  go_wp2
  go_ret
  exact ⟨rfl, ((Below.refl _ w).alloc (Nat.le_refl _) _).alloc (by simp) _⟩
theorem rlist_any (l m : List Nd) (v u : Value) (w : World) (hv : Nodes w.heap.size w v l) (hu : Nodes w.heap.size w u m) (hL : l.length ≤ 1000000) (hS1 : ∀ x ∈ l, x.l.length ≤ 1000000) :
    Calls Tryd.prog 24 #[.agg #[v], .agg #[u]] w fun e w' => e = .returned (.bool (ln l m)) ∧ Below w.heap.size w w' := by
  obtain ⟨A, c1, rfl, _, _, hq⟩ := hv
  obtain ⟨C, c2, rfl, _, _, hr⟩ := hu
  by_cases he : l.length = m.length
  · have hb : ln l m = lns l m := by rw [ln, he]; simp
    rw [hb, ← he]
    refine rlist_pos l m _ c1 c2 A C (Lib.hid rfl) (Lib.hid he.symm) hL w (Lib.hid fun h => ?_) (Lib.hid hS1)
    obtain ⟨b1, o1, rfl, hb1, h1⟩ := hq h
    obtain ⟨b2, o2, rfl, hb2, h2⟩ := hr (by omega)
    exact ⟨b1, o1, b2, o2, rfl, rfl, hb1, hb2, h1, h2⟩
  · have hb : ln l m = false := by rw [ln]; simp [he]
    rw [hb]
    exact rlist_len _ _ c1 c2 A C he w
end Go.Proofs.YteikpeaakmbihaaDoor.T
/- Same, the document's; Parents, the program's. -/
namespace Go.Proofs.YteikpeaakmbihaaDoor.T
open Go.RowKit Go.Shelf
/-- What stays through a walk over two trees in boxes. -/
def BSt (w W : World) (A : Option Addr) (ka La : Nat) (la : List Nd) (C : Option Addr) (kc Lc : Nat) (lc : List Nd) : Prop :=
  Below w.heap.size w W ∧ Nodes W.heap.size W (.slice A La ka) la ∧ Nodes W.heap.size W (.slice C Lc kc) lc ∧ W.heap[w.heap.size]? = some (.cells #[.slice A La ka] 24 (0, 0)) ∧ W.heap[w.heap.size + 1]? = some (.cells #[.slice C Lc kc] 24 (0, 0))
section
variable {w W W' : World} {A C : Option Addr} {ka La kc Lc : Nat} {la lc : List Nd}
theorem nodes_next {v : Value} {l : List Nd} (h : Nodes W.heap.size W v l) (hb : Below W.heap.size W W') : Nodes W'.heap.size W' v l := (h.below hb).mono hb.size
theorem nodes_drew {v : Value} {l : List Nd} (h : Nodes W.heap.size W v l) : Nodes W.drew.heap.size W.drew v l := nodes_next h (Below.refl _ _).drew
theorem BSt.next (h : BSt w W A ka La la C kc Lc lc) (hb : Below W.heap.size W W') : BSt w W' A ka La la C kc Lc lc :=
  ⟨below_next h.1 hb (Nat.le_refl _), nodes_next h.2.1 hb, nodes_next h.2.2.1 hb, blk_next h.2.2.2.1 hb, blk_next h.2.2.2.2 hb⟩
theorem BSt.drew (h : BSt w W A ka La la C kc Lc lc) : BSt w W.drew A ka La la C kc Lc lc := h.next (Below.refl _ _).drew
theorem BSt.c2 (h : BSt w W A ka La la C kc Lc lc) : W.cell? ⟨w.heap.size, 0, none⟩ = some (.slice A La ka) := (Blk_cell h.2.2.2.1 0).trans rfl
theorem BSt.c3 (h : BSt w W A ka La la C kc Lc lc) : W.cell? ⟨w.heap.size + 1, 0, none⟩ = some (.slice C Lc kc) := (Blk_cell h.2.2.2.2 0).trans rfl
theorem BSt.start (hA : Nodes w.heap.size w (.slice A La ka) la) (hC : Nodes w.heap.size w (.slice C Lc kc) lc) : BSt w ((w.alloc (.cells #[.slice A La ka] 24)).alloc (.cells #[.slice C Lc kc] 24)) A ka La la C kc Lc lc := by
  have hb : Below w.heap.size w ((w.alloc (.cells #[.slice A La ka] 24)).alloc (.cells #[.slice C Lc kc] 24)) := ((Below.refl _ w).alloc (Nat.le_refl _) _).alloc (by simp) _
  exact ⟨hb, nodes_next hA hb, nodes_next hC hb, nextAt (newAt rfl), newAt (by simp)⟩
end
set_option maxRecDepth 100000 in
set_option maxHeartbeats 8000000 in
theorem rsame_any (l m : List Nd) (va vb : Value) (w : World) (hA : Nodes w.heap.size w va l) (hB : Nodes w.heap.size w vb m) (HS : ∀ x ∈ l, Small x) (HS' : ∀ x ∈ m, Small x) :
    Calls Tryd.prog 23 #[.agg #[va], .agg #[vb]] w fun e w' => e = .returned (.bool (tsm l m)) ∧ Below w.heap.size w w' := by
  obtain ⟨A, ca, rfl, hxa⟩ := hA
  obtain ⟨C, cc, rfl, hxc⟩ := hB
  have S0 := Lib.hid (BSt.start (w := w) (show Nodes w.heap.size w (.slice A l.length ca) l from ⟨A, ca, rfl, hxa⟩) (show Nodes w.heap.size w (.slice C m.length cc) m from ⟨C, cc, rfl, hxc⟩))
  have HML : Hid (∀ (W : World) (v : Value), Nodes W.heap.size W v l → Calls Tryd.prog 11 #[.agg #[v]] W fun e w' => e = .returned (.int .i64 (may l)) ∧ Below W.heap.size W w') := Lib.hid fun W v h => rmay_all l v W h HS
  have HMM : Hid (∀ (W : World) (v : Value), Nodes W.heap.size W v m → Calls Tryd.prog 11 #[.agg #[v]] W fun e w' => e = .returned (.int .i64 (may m)) ∧ Below W.heap.size W w') := Lib.hid fun W v h => rmay_all m v W h HS'
  have HNL : may l = 0 → Hid (∀ (W : World) (A : Option Addr) (c : Nat), Nodes W.heap.size W (.slice A l.length c) l → Calls Tryd.prog 25 #[.agg #[.slice A l.length c]] W fun e w' => ∃ A c, e = .returned (.agg #[.slice A (nrm l).length c]) ∧ Nodes w'.heap.size w' (.slice A (nrm l).length c) (nrm l) ∧ Below W.heap.size W w') := fun h0 => Lib.hid fun W A c h => NPost.nodes (rnorm_any l _ A c rfl h0 W h HS)
  have HNM : may m = 0 → Hid (∀ (W : World) (A : Option Addr) (c : Nat), Nodes W.heap.size W (.slice A m.length c) m → Calls Tryd.prog 25 #[.agg #[.slice A m.length c]] W fun e w' => ∃ A c, e = .returned (.agg #[.slice A (nrm m).length c]) ∧ Nodes w'.heap.size w' (.slice A (nrm m).length c) (nrm m) ∧ Below W.heap.size W w') := fun h0 => Lib.hid fun W A c h => NPost.nodes (rnorm_any m _ A c rfl h0 W h HS')
  have HEQ : Hid (∀ (W : World) (v u : Value), Nodes W.heap.size W v (nrm l) → Nodes W.heap.size W u (nrm m) → Calls Tryd.prog 24 #[.agg #[v], .agg #[u]] W fun e w' => e = .returned (.bool (ln (nrm l) (nrm m))) ∧ Below W.heap.size W w') := Lib.hid fun W v u h1 h2 => rlist_any _ _ v u W h1 h2 (by have := (nrm_few HS).1; omega) (nrm_few HS).2
  unfold tsm
  obtain ⟨ea, hea⟩ : ∃ ea, may l = ea := ⟨_, rfl⟩
  obtain ⟨eb, heb⟩ : ∃ eb, may m = eb := ⟨_, rfl⟩
  rw [hea] at HML HNL ⊢
  rw [heb] at HMM HNM ⊢
  obtain ⟨NA, hNA⟩ : ∃ NA, nrm l = NA := ⟨_, rfl⟩
  obtain ⟨NB, hNB⟩ : ∃ NB, nrm m = NB := ⟨_, rfl⟩
  rw [hNA] at HNL HEQ ⊢
  rw [hNB] at HNM HEQ ⊢
  clear hea heb hNA hNB HS HS' hxa hxc
  by_cases h1 : ea = 0
  · subst h1
    replace HNL := HNL rfl
    by_cases h2 : eb = 0
    · subst h2
      replace HNM := HNM rfl
      go_enter Tryd.func23, Tryd.ntmps23
      go_wp2
      go_region_with (first
        | (go_at_call 24; refine (HEQ.out _ _ _ N3.out N4.out).mono ?_; rintro e w5 ⟨rfl, hb5⟩; have S5 := Lib.hid (S4.out.next hb5); clear hb5)
        | (go_at_call 25; have _tag := N3.out; clear _tag; refine (HNM.out _ _ _ S3.out.2.2.1).mono ?_; rintro e w4 ⟨A4, k4, rfl, hn4, hb4⟩; have S4 := Lib.hid (S3.out.next hb4); have N3 := Lib.hid (nodes_next N3.out hb4); have N4 := Lib.hid hn4; clear hb4 hn4)
        | (go_at_call 25; refine (HNL.out _ _ _ S2.out.2.1).mono ?_; rintro e w3 ⟨A3, k3, rfl, hn3, hb3⟩; have S3 := Lib.hid (S2.out.next hb3); have N3 := Lib.hid hn3; have c33 := S3.out.c3; clear hb3 hn3)
        | (go_at_call 11; have _tag := S1.out; clear _tag; refine (HMM.out _ _ S1.out.2.2.1).mono ?_; rintro e w2 ⟨rfl, hb2⟩; have S2 := Lib.hid (S1.out.next hb2); have c22 := S2.out.c2; have c32 := S2.out.c3; clear hb2)
        | (go_at_call 11; refine (HML.out _ _ S0.out.drew.2.1).mono ?_; rintro e w1 ⟨rfl, hb1⟩; have S1 := Lib.hid (S0.out.drew.next hb1); have c21 := S1.out.c2; have c31 := S1.out.c3; clear hb1))
      all_goals
        go_wp2
        go_ret
        exact ⟨ret_b (by simp), S5.out.1⟩
    · have hz : (eb == 0) = false := by simpa using h2
      go_enter Tryd.func23, Tryd.ntmps23
      go_wp2
      go_region_with (first
        | (go_at_call 11; have _tag := S1.out; clear _tag; refine (HMM.out _ _ S1.out.2.2.1).mono ?_; rintro e w2 ⟨rfl, hb2⟩; have S2 := Lib.hid (S1.out.next hb2); have c22 := S2.out.c2; have c32 := S2.out.c3; clear hb2)
        | (go_at_call 11; refine (HML.out _ _ S0.out.drew.2.1).mono ?_; rintro e w1 ⟨rfl, hb1⟩; have S1 := Lib.hid (S0.out.drew.next hb1); have c21 := S1.out.c2; have c31 := S1.out.c3; clear hb1))
      all_goals
        go_wp2
        go_ret
        exact ⟨ret_b (by simp [*]), S2.out.1⟩
  · have hz : (ea == 0) = false := by simpa using h1
    go_enter Tryd.func23, Tryd.ntmps23
    go_wp2
    go_region_with (go_at_call 11; refine (HML.out _ _ S0.out.drew.2.1).mono ?_; rintro e w1 ⟨rfl, hb1⟩; have S1 := Lib.hid (S0.out.drew.next hb1); have c21 := S1.out.c2; have c31 := S1.out.c3; clear hb1)
    all_goals
      go_wp2
      go_ret
      exact ⟨ret_b (by simp [*]), S1.out.1⟩
end Go.Proofs.YteikpeaakmbihaaDoor.T
