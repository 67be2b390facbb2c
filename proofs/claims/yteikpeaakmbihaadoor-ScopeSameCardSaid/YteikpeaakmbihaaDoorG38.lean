/- Joined by program: SDown, SPar, SBinds. -/
import Derived.Test.YteikpeaakmbihaaDoorG30
import Derived.Test.YteikpeaakmbihaaDoorG34
import Derived.Test.YteikpeaakmbihaaDoorG32
import Derived.Test.YteikpeaakmbihaaDoorG37
import Derived.Test.YteikpeaakmbihaaDoorG01
import Derived.Test.YteikpeaakmbihaaDoorG28
import Derived.Test.YteikpeaakmbihaaDoorG27
import Derived.Test.YteikpeaakmbihaaDoorG20
import Derived.Deep.RegionHeld3
import Derived.IntWalk
/- Down the reaches: the closure. -/
namespace Go.Proofs.YteikpeaakmbihaaDoor.T
open Go.RowKit
theorem grown_to {a b : World} {row : Option Nat} (h : a.grownBy b none) : a.grownBy b row := ⟨h.os, h.tape, h.output, h.size, fun i hi _ => h.block i hi (by simp)⟩
def DnPost (w W : World) (pe pl pd gl : Nat) (A : Option Addr) (c cl : Nat) (l : List Nd) (xs : List (Int × Int)) (e : Ending) (W' : World) : Prop :=
  (∃ u, e = .returned u) ∧ DSt w W' pe pl pd gl A c cl l xs ∧ W.grownBy W' (some gl)
/-- A row of whole numbers, its block known. -/
def KB (W : World) (g : Nat) (K : List Int) : Prop := ∃ cs : Array Value, W.heap[g]? = some (.cells cs 3 (0, 0)) ∧ ∀ (j : Nat) (z : Int), K[j]? = some z → cs[j]? = some (Value.int .i64 z)
theorem KB.of {B g n c : Nat} {W : World} {K : List Int} (h : Ints B W (.slice (some ⟨g, 0, none⟩) n c) K) : KB W g K := by
  have hc := fun (j : Nat) (z : Int) (hz : K[j]? = some z) => World.ownsRow.cells h (g := g) rfl j (.int .i64 z) (by rw [List.getElem?_map, hz]; rfl)
  rcases h.2 with ⟨h, _⟩ | ⟨g', cap, cur, h, _, hh, _⟩
  · exact absurd h (by simp)
  · cases h
    refine ⟨cur, hh, fun j z hz => ?_⟩
    have := hc j z hz
    rwa [Addr.add_lit, Nat.zero_add, Blk_cell hh] at this
theorem KB.cell {W : World} {g j : Nat} {K : List Int} {z : Int} (h : KB W g K) (hz : K[j]? = some z) : W.cell? ⟨g, j, none⟩ = some (.int .i64 z) := by
  obtain ⟨cs, h1, h2⟩ := h
  exact (Blk_cell h1 j).trans (h2 j z hz)
theorem KB.next {W W' : World} {g : Nat} {K : List Int} (h : KB W g K) (hb : Below W.heap.size W W') : KB W' g K := by
  obtain ⟨cs, h1, h2⟩ := h
  exact ⟨cs, blk_next h1 hb, h2⟩
theorem KB.grown {W W' : World} {g gl : Nat} {K : List Int} {cs : Array Value} (h : KB W g K) (hg : W.heap[gl]? = some (.cells cs 59 (0, 0))) (hgr : W.grownBy W' (some gl)) : KB W' g K := by
  obtain ⟨cs', h1, h2⟩ := h
  exact ⟨cs', blk_grown hgr h1 (blk_ne h1 hg (by decide)), h2⟩
theorem nine {W : World} {g t : Nat} {v0 v1 v2 v3 v4 v5 v6 v7 v8 : Value} (h : W.heap[g]? = some (.cells #[v0, v1, v2, v3, v4, v5, v6, v7, v8] t (0, 0))) :
    W.cell? ⟨g, 0, none⟩ = some v0 ∧ W.cell? ⟨g, 1, none⟩ = some v1 ∧ W.cell? ⟨g, 2, none⟩ = some v2 ∧ W.cell? ⟨g, 3, none⟩ = some v3 ∧ W.cell? ⟨g, 4, none⟩ = some v4 ∧ W.cell? ⟨g, 5, none⟩ = some v5 ∧ W.cell? ⟨g, 6, none⟩ = some v6 ∧ W.cell? ⟨g, 7, none⟩ = some v7 ∧ W.cell? ⟨g, 8, none⟩ = some v8 :=
  ⟨(Blk_cell h 0).trans rfl, (Blk_cell h 1).trans rfl, (Blk_cell h 2).trans rfl, (Blk_cell h 3).trans rfl, (Blk_cell h 4).trans rfl, (Blk_cell h 5).trans rfl, (Blk_cell h 6).trans rfl, (Blk_cell h 7).trans rfl, (Blk_cell h 8).trans rfl⟩
set_option maxRecDepth 100000 in
set_option maxHeartbeats 8000000 in
theorem down_any (l : List Nd) (hk : kidsOk l) (w : World) (pe pl pd gl b o c cl L : Nat) (HL : Hid (l.length = L)) (_hcl : L ≤ cl) (hb : b < w.heap.size) (HN : Hid (NdsAt w.heap.size w b o l)) (HS : Hid (∀ x ∈ l, x.l.length ≤ 1000000)) (_hL : L ≤ 600) :
    ∀ i, i < L → ∀ (env : List Rch) (xs : List (Int × Int)) (v : Value) (W : World), Hid (DSt w W pe pl pd gl (some ⟨b, o, none⟩) c cl l xs) → Hid (Chain W v env) →
      Calls Tryd.prog 56 #[.int .i64 (i : Int), v, .pointer (some ⟨pe, 0, none⟩), .pointer (some ⟨pl, 0, none⟩), .pointer (some ⟨pd, 0, none⟩)] W (DnPost w W pe pl pd gl (some ⟨b, o, none⟩) c cl l (dn l i env xs)) := by
  intro i
  induction i using Nat.strongRecOn with
  | ind i ih =>
    intro hi env xs v W HD HC
    have IH := Lib.hid ih
    clear ih
    obtain ⟨p, rfl⟩ := chain_ptr HC.out
    obtain ⟨x, hx⟩ : ∃ x, l[i]? = some x := ⟨_, List.getElem?_eq_getElem (by rw [HL.out]; exact hi)⟩
    have HXL : Hid (x.l.length ≤ 1000000) := Lib.hid (HS.out x (List.mem_of_getElem? hx))
    have HKD : Hid ((kids x).Nodup ∨ True) := Lib.hid (.inr trivial)
    have HA := Lib.hid (hk i x hx)
    have HEQ := Lib.hid (dn_eq hx (hk i x hx) env xs)
    obtain ⟨fv, hfl, m0, m1, m2, m3, m4, m5, m6, m7, m8⟩ := HN.out i x hx
    have lo : ∀ k, W.cell? ⟨b, k, none⟩ = w.cell? ⟨b, k, none⟩ := fun k => HD.out.low.cell (p := ⟨b, k, none⟩) hb
    rw [← lo] at m0 m1 m2 m3 m4 m5 m6 m7 m8
    have HF : Hid (Flds w.heap.size w fv x.l) := Lib.hid hfl
    obtain ⟨FA, fc, rfl, _⟩ := hfl
    obtain ⟨FL, hFL⟩ : ∃ FL, x.l.length = FL := ⟨_, rfl⟩
    rw [hFL] at HF m7
    have HFL := Lib.hid hFL
    have HCE : W.cell? ⟨pe, 0, none⟩ = some (.slice (some ⟨b, o, none⟩) L c) := HL.out ▸ HD.out.ce
    obtain ⟨xs1, hxs1⟩ : ∃ xs1, (if x.kind = 4 then xs.set i (look env x.nm) else xs) = xs1 := ⟨_, rfl⟩
    have HX1 := Lib.hid hxs1
    have HNB : Hid ((W.alloc (.cells (ndArr x (.slice FA FL fc)) 27)).heap[W.heap.size]? = some (.cells (ndArr x (.slice FA FL fc)) 27 (0, 0))) := Lib.hid (heap_alloc_new W _)
    have hbz : b < W.heap.size := by have := HD.out.low.size; omega
    clear lo hxs1 hFL
    unfold ndArr at HNB
    obtain ⟨K, hK⟩ : ∃ K, x.kind = K := ⟨_, rfl⟩
    rw [hK] at HNB m0
    have HK := Lib.hid hK
    clear hK
    go_enter Tryd.func56, Tryd.ntmps56
    go_upto_if 17 with fail
    go_cut [] (fun wx => Hid (DSt w wx pe pl pd gl (some ⟨b, o, none⟩) c cl l xs1) ∧ Hid (W.grownBy wx (some gl)) ∧ Hid (Chain wx (.pointer p) env) ∧ Hid (wx.heap[W.heap.size]? = some (.cells #[.int .i64 K, .int .i64 x.a, .int .i64 x.b, .int .i64 x.c, .int .i64 x.n, .string x.nm, .string x.s, .slice FA FL fc, .int .i64 x.pos] 27 (0, 0))))
    case first =>
      by_cases h4 : K = 4
      · obtain ⟨q1, q2, hq⟩ : ∃ q1 q2, look env x.nm = (q1, q2) := ⟨_, _, rfl⟩
        have HX2 : Hid (xs.set i (q1, q2) = xs1) := Lib.hid (by have := HX1.out; rwa [if_pos (HK.out.trans h4), hq] at this)
        subst h4
        have HBD : Hid (∀ W', Chain W' (.pointer p) env → Calls Tryd.prog 57 #[.pointer p, .string x.nm] W' (BdPost (q1, q2) W')) := Lib.hid fun W' h => hq ▸ binder_any env _ _ W' (Lib.hid h)
        have HB0 : Hid (Below W.heap.size W (W.alloc (.cells #[.int .i64 4, .int .i64 x.a, .int .i64 x.b, .int .i64 x.c, .int .i64 x.n, .string x.nm, .string x.s, .slice FA FL fc, .int .i64 x.pos] 27)).drew) := Lib.hid ((Below.refl _ W).alloc (Nat.le_refl _) _).drew
        have D0 := Lib.hid (HD.out.next HB0.out)
        have C0 := Lib.hid (chain_below HB0.out HC.out)
        have N0 : Hid ((W.alloc (.cells #[.int .i64 4, .int .i64 x.a, .int .i64 x.b, .int .i64 x.c, .int .i64 x.n, .string x.nm, .string x.s, .slice FA FL fc, .int .i64 x.pos] 27)).drew.heap[W.heap.size]? = _) := Lib.hid HNB.out
        have hcl2 : (i : Int) < (L : Int) := by omega
        have hiL : Hid (i < l.length) := Lib.hid (by rw [HL.out]; exact hi)
        clear hq HX1
        go_upto_region 2 with fail
        go_region_held3 (fun w' => w'.cell? ⟨pl, 0, none⟩ = some (.slice (some ⟨gl, 0, none⟩) L cl) ∧ w'.cell? ⟨W.heap.size, 5, none⟩ = some (.string x.nm)) (first | exact ⟨HL.out ▸ D0.out.cr, (Blk_cell N0.out 5).trans rfl⟩ | exact ⟨HL.out ▸ D1.out.cr, (Blk_cell N1.out 5).trans rfl⟩ | exact ⟨HL.out ▸ D2.out.cr, (Blk_cell N2.out 5).trans rfl⟩)
          ((go_at_call 57; refine (HBD.out _ C0.out).mono ?_; rintro e w1 ⟨rfl, hb1⟩; have D1 := Lib.hid (D0.out.next hb1); have C1 := Lib.hid (chain_below hb1 C0.out); have N1 := Lib.hid ((hb1.block _ (Array.getElem?_eq_some_iff.1 N0.out).1).trans N0.out); have g1 := Lib.hid hb1; obtain ⟨⟨z1, z1'⟩, ⟨z2, z2'⟩⟩ := D1.out.cells hiL.out; obtain ⟨y1, y2⟩ := D1.out.froz i; have D2 := Lib.hid (D1.out.set i (q1, q2)).1; have G2 := Lib.hid (D1.out.set i (q1, q2)).2; have N2 := Lib.hid (blk_grown G2.out N1.out (blk_ne N1.out D1.out.g (by decide))); clear hb1))
        all_goals
          have C2 := Lib.hid (chain_grown G2.out D1.out.g C1.out)
          have G0 := Lib.hid (grown_trans (grown_trans (grown_to (grown_of HB0.out)) (grown_to (grown_of g1.out))) G2.out)
          rw [HX2.out] at D2
          go_wp2_with fail
          go_meet
          exact ⟨D2, G0, C2, N2⟩
      · have h4b : (K == 4) = false := by simpa using h4
        have HB0 : Hid (Below W.heap.size W (W.alloc (.cells #[.int .i64 K, .int .i64 x.a, .int .i64 x.b, .int .i64 x.c, .int .i64 x.n, .string x.nm, .string x.s, .slice FA FL fc, .int .i64 x.pos] 27))) := Lib.hid ((Below.refl _ W).alloc (Nat.le_refl _) _)
        have HX2 : Hid (xs = xs1) := Lib.hid (by have := HX1.out; rwa [if_neg (fun e => h4 (HK.out.symm.trans e))] at this)
        have D0 := Lib.hid (HD.out.next HB0.out)
        rw [HX2.out] at D0
        have C0 := Lib.hid (chain_below HB0.out HC.out)
        have G0 := Lib.hid (grown_to (row := some gl) (grown_of HB0.out))
        clear HX1 HX2
        go_wp2_with fail
        go_meet
        exact ⟨D0, G0, C0, HNB⟩
    case rest =>
      obtain ⟨D1, G1, C1, N1⟩ := hcut
      clear HNB HC HD HCE m0 m1 m2 m3 m4 m5 m6 m7 m8
      obtain ⟨KL, hKL⟩ : ∃ KL, (kids x).length = KL := ⟨_, rfl⟩
      have HKL := Lib.hid hKL
      have hKLb : KL ≤ 1000003 := by have := kids_len x; have := HXL.out; omega
      have c0 := (Blk_cell N1.out 0).trans rfl
      have c1 := (Blk_cell N1.out 1).trans rfl
      have c2 := (Blk_cell N1.out 2).trans rfl
      have c3 := (Blk_cell N1.out 3).trans rfl
      have c4 := (Blk_cell N1.out 4).trans rfl
      have c5 := (Blk_cell N1.out 5).trans rfl
      have c6 := (Blk_cell N1.out 6).trans rfl
      have c7 := (Blk_cell N1.out 7).trans rfl
      have c8 := (Blk_cell N1.out 8).trans rfl
      have HKI : Hid (Calls Tryd.prog 16 #[.agg #[.int .i64 K, .int .i64 x.a, .int .i64 x.b, .int .i64 x.c, .int .i64 x.n, .string x.nm, .string x.s, .slice FA FL fc, .int .i64 x.pos]] wc fun e W' => ∃ g c, e = .returned (.slice (some ⟨g, 0, none⟩) KL c) ∧ KB W' g (kids x) ∧ Below wc.heap.size wc W') := Lib.hid (by
        have h := pkids_any (B := wc.heap.size) x (.slice FA FL fc) wc (Nat.le_refl _) ((HF.out.below D1.out.low).mono D1.out.low.size) HXL.out
        unfold ndArr at h
        rw [HK.out] at h
        refine h.mono ?_
        rintro e W' ⟨g, c, rfl, hi, hb⟩
        exact ⟨g, c, by rw [hKL], KB.of hi, hb⟩)
      clear hKL
      go_wp2_with (go_at_call 16; refine HKI.out.mono ?_; rintro e w2 ⟨gk, ck, rfl, hkb, hb⟩; have D2 := Lib.hid (D1.out.next hb); have C2 := Lib.hid (chain_below hb C1.out); have N2 := Lib.hid (blk_next N1.out hb); have G2 := Lib.hid (grown_trans G1.out (grown_to (grown_of hb))); have KB2 := Lib.hid hkb; clear hb hkb)
      clear c0 c1 c2 c3 c4 c5 c6 c7 c8 D1 C1 N1 G1 HKI
      go_loopw [28] (fun s28 wr => ∃ q : Nat, s28 = .int .i64 (q : Int) ∧ q ≤ KL ∧ Hid (DSt w wr pe pl pd gl (some ⟨b, o, none⟩) c cl l (dns l x i env ((kids x).zipIdx.take q) xs1)) ∧ Hid (W.grownBy wr (some gl)) ∧ Hid (Chain wr (.pointer p) env) ∧ Hid (wr.heap[W.heap.size]? = some (.cells #[.int .i64 K, .int .i64 x.a, .int .i64 x.b, .int .i64 x.c, .int .i64 x.n, .string x.nm, .string x.s, .slice FA FL fc, .int .i64 x.pos] 27 (0, 0))) ∧ Hid (KB wr gk (kids x))) (fun s28 _ => KL - (intOf s28).toNat)
      case atStart => exact ⟨0, rfl, Nat.zero_le _, D2, G2, C2, N2, KB2⟩
      case round =>
        obtain ⟨q, rfl, hq, D3, G3, C3, N3, KB3⟩ := hrel
        clear D2 G2 C2 N2 KB2
        by_cases hlt : q < KL
        · obtain ⟨kz, hkz⟩ : ∃ kz, (kids x)[q]? = some kz := ⟨_, List.getElem?_eq_getElem (by rw [HKL.out]; exact hlt)⟩
          have hkm := HA.out kz (List.mem_of_getElem? hkz)
          obtain ⟨m, rfl⟩ : ∃ m : Nat, kz = (m : Int) := ⟨kz.toNat, by omega⟩
          have hmi : m < i := by omega
          have z1 := KB3.out.cell hkz
          have HST : Hid (dn l m (ofK x i q env) (dns l x i env ((kids x).zipIdx.take q) xs1) = dns l x i env ((kids x).zipIdx.take (q + 1)) xs1) := Lib.hid (by
            have e : (kids x).zipIdx.take (q + 1) = (kids x).zipIdx.take q ++ [((m : Int), q)] := take_snoc _ _ _ (by rw [List.getElem?_zipIdx, hkz]; simp)
            rw [e, dns_snoc]; simp)
          have HQX : Hid (x.kind = 14 → q ≤ x.l.length) := Lib.hid fun h14 => by
            have h1 : (kids x).length = x.l.length + 1 := by simp [kids, kids0, many, h14]
            have := HKL.out
            omega
          have HOK : Hid (∀ W', Chain W' (.pointer p) env → Flds W'.heap.size W' (.slice FA FL fc) x.l → Calls Tryd.prog 58 #[.pointer p, .agg #[.int .i64 K, .int .i64 x.a, .int .i64 x.b, .int .i64 x.c, .int .i64 x.n, .string x.nm, .string x.s, .slice FA FL fc, .int .i64 x.pos], .int .i64 (i : Int), .int .i64 (q : Int)] W' (RcPost (ofK x i q env) W')) := Lib.hid fun W' h1 h2 => by
            have h := ofKid_any x (.slice FA FL fc) (.pointer p) env i q (by omega) (HQX.out) W' (Lib.hid h1) h2
            unfold ndArr at h
            rwa [HK.out] at h
          clear hkz hkm
          go_upto_region 6 with fail
          have D4 := Lib.hid D3.out.drew
          have C4 := Lib.hid (chain_below (Below.refl _ _).drew C3.out)
          have N4 : Hid (wr.drew.heap[W.heap.size]? = _) := Lib.hid N3.out
          go_region_held3 (fun w' => w'.cell? ⟨pd, 0, none⟩ = some (.func (.func 56) #[] #[.pointer (some ⟨pe, 0, none⟩), .pointer (some ⟨pl, 0, none⟩), .pointer (some ⟨pd, 0, none⟩)]) ∧ w'.cell? ⟨W.heap.size, 0, none⟩ = some (.int .i64 K) ∧ w'.cell? ⟨W.heap.size, 1, none⟩ = some (.int .i64 x.a) ∧ w'.cell? ⟨W.heap.size, 2, none⟩ = some (.int .i64 x.b) ∧ w'.cell? ⟨W.heap.size, 3, none⟩ = some (.int .i64 x.c) ∧ w'.cell? ⟨W.heap.size, 4, none⟩ = some (.int .i64 x.n) ∧ w'.cell? ⟨W.heap.size, 5, none⟩ = some (.string x.nm) ∧ w'.cell? ⟨W.heap.size, 6, none⟩ = some (.string x.s) ∧ w'.cell? ⟨W.heap.size, 7, none⟩ = some (.slice FA FL fc) ∧ w'.cell? ⟨W.heap.size, 8, none⟩ = some (.int .i64 x.pos))
            (first | exact ⟨D4.out.cd, nine N4.out⟩ | exact ⟨D5.out.cd, nine N5.out⟩ | exact ⟨D6.out.cd, nine N6.out⟩)
            (first
              | (go_at_call 56; refine (IH.out m hmi (by omega) _ _ _ _ D5 C5).mono ?_; rintro e w6 ⟨⟨u6, rfl⟩, hd6, hg6⟩; have D6 := Lib.hid hd6; have G6 := Lib.hid hg6; have N6 := Lib.hid (blk_grown hg6 N5.out (blk_ne N5.out D5.out.g (by decide))); clear hd6 hg6)
              | (go_at_call 58; refine (HOK.out _ C4.out ((HF.out.below D4.out.low).mono D4.out.low.size)).mono ?_; rintro e w5 ⟨u5, rfl, hc5, hb5⟩; obtain ⟨p5, rfl⟩ := chain_ptr hc5; have C5 := Lib.hid hc5; have D5 := Lib.hid (D4.out.next hb5); have N5 := Lib.hid (blk_next N4.out hb5); have g5 := Lib.hid hb5; clear hc5 hb5))
          have G7 := Lib.hid (grown_trans G3.out (grown_trans (grown_to (grown_of (Below.refl wr.heap.size wr).drew)) (grown_trans (grown_to (grown_of g5.out)) G6.out)))
          have C7 := Lib.hid (chain_grown G6.out D5.out.g (chain_below g5.out C4.out))
          have K7 := Lib.hid (((KB3.out.next (Below.refl wr.heap.size wr).drew).next g5.out).grown D5.out.g G6.out)
          rw [HST.out] at D6
          go_wp2_with fail
          go_roundw
          case rel => exact ⟨q + 1, by go_num, by omega, D6, G7, C7, N6, K7⟩
          case measure => simp [intOf]; omega
        · obtain rfl : q = KL := by omega
          have HT : Hid (dns l x i env ((kids x).zipIdx.take q) xs1 = dn l i env xs) := Lib.hid (by
            rw [HEQ.out, HX1.out, List.take_of_length_le (by rw [List.length_zipIdx, HKL.out]; exact Nat.le_refl _)])
          rw [HT.out] at D3
          go_wp2
          go_end0
          exact ⟨⟨_, rfl⟩, D3, G3⟩
end Go.Proofs.YteikpeaakmbihaaDoor.T
/- The document's parents, and what binds a name for a child. -/
namespace Go.Proofs.YteikpeaakmbihaaDoor.T
open Go.RowKit
def UPar (l : List Nd) (U : List Int) : Prop := U.length = l.length ∧ (∀ (i : Nat) (x : Nd) (k : Int), l[i]? = some x → k ∈ kids x → U[k.toNat]? = some (i : Int)) ∧ U[l.length - 1]? = some (-1)
/-- The nodes' parents, those ahead of a node, and some of its children's. -/
def UTo (l : List Nd) (i j : Nat) (U : List Int) : Prop := U.length = l.length ∧ (∀ (i' : Nat) (x : Nd) (k : Int), i' < i → l[i']? = some x → k ∈ kids x → U[k.toNat]? = some (i' : Int)) ∧ ∀ (x : Nd) (k : Int), l[i]? = some x → k ∈ (kids x).take j → U[k.toNat]? = some (i : Int)
theorem UTo.step {l : List Nd} (hk : kidsOk l) (hn : (allKids l).Nodup) {i j m : Nat} {U : List Int} {x : Nd} (h : UTo l i j U) (hx : l[i]? = some x) (hm : (kids x)[j]? = some (m : Int)) : UTo l i (j + 1) (U.set m (i : Int)) := by
  obtain ⟨h1, h2, h3⟩ := h
  have hmm := List.mem_of_getElem? hm
  have hmi := hk i x hx _ hmm
  have hil := (List.getElem?_eq_some_iff.1 hx).1
  refine ⟨by simpa using h1, fun i' y k hi' hy hkk => ?_, fun y k hy hkk => ?_⟩
  · have hne : k.toNat ≠ m := fun e => by
      have := hk i' y hy k hkk
      have e2 : k = (m : Int) := by omega
      subst e2
      have := nodup_at hn hy hx hkk hmm
      omega
    rw [List.getElem?_set_ne (by omega)]
    exact h2 i' y k hi' hy hkk
  · rw [hx] at hy
    obtain rfl := Option.some.inj hy
    rw [take_snoc _ _ _ hm] at hkk
    rcases List.mem_append.1 hkk with hkk | hkk
    · by_cases he : k.toNat = m
      · rw [he, List.getElem?_set_self (by omega)]
      · rw [List.getElem?_set_ne (by omega)]; exact h3 x k hx hkk
    · obtain rfl : k = (m : Int) := by simpa using hkk
      rw [Int.toNat_natCast, List.getElem?_set_self (by omega)]
theorem UTo.up {l : List Nd} {i : Nat} {U : List Int} {x : Nd} (h : UTo l i (kids x).length U) (hx : l[i]? = some x) : UTo l (i + 1) 0 U := by
  obtain ⟨h1, h2, h3⟩ := h
  refine ⟨h1, fun i' y k hi' hy hkk => ?_, fun y k _ hkk => by simp at hkk⟩
  by_cases he : i' = i
  · subst he
    rw [hx] at hy
    obtain rfl := Option.some.inj hy
    exact h3 x k hx (by rwa [List.take_of_length_le (Nat.le_refl _)])
  · exact h2 i' y k (by omega) hy hkk
theorem UTo.fin {l : List Nd} (hk : kidsOk l) (h0 : 0 < l.length) {U : List Int} (h : UTo l l.length 0 U) : UPar l (U.set (l.length - 1) (-1)) := by
  obtain ⟨h1, h2, _⟩ := h
  refine ⟨by simpa using h1, fun i x k hx hkk => ?_, by rw [List.getElem?_set_self (by omega)]⟩
  have hi := (List.getElem?_eq_some_iff.1 hx).1
  have := hk i x hx k hkk
  rw [List.getElem?_set_ne (by omega)]
  exact h2 i x k hi hx hkk
def ParP (l : List Nd) (w : World) (e : Ending) (w' : World) : Prop := ∃ g U, e = .returned (.slice (some ⟨g, 0, none⟩) l.length l.length) ∧ w'.heap[g]? = some (.cells (U.map (Value.int .i64)).toArray 3 (0, 0)) ∧ UPar l U ∧ w.heap.size ≤ g ∧ Below w.heap.size w w'
set_option maxRecDepth 100000 in
set_option maxHeartbeats 8000000 in
theorem rpar_any (l : List Nd) (L c b o : Nat) (HL : Hid (l.length = L)) (hk : kidsOk l) (hn : (allKids l).Nodup) (h0 : 1 ≤ L) (h6 : L ≤ 600) (w : World) (hb : b < w.heap.size) (HN : Hid (NdsAt w.heap.size w b o l)) (HS : Hid (∀ x ∈ l, x.l.length ≤ 1000000)) :
    Calls Tryd.prog 59 #[.agg #[.slice (some ⟨b, o, none⟩) L c]] w (ParP l w) := by
  have hmk := make_ints L (by omega)
  have HNO := Lib.hid hn
  have hE : (w.alloc (.cells #[.slice (some ⟨b, o, none⟩) L c] 24)).heap[w.heap.size]? = some (.cells #[.slice (some ⟨b, o, none⟩) L c] 24 (0, 0)) := heap_alloc_new w _
  obtain ⟨w1, hw1⟩ : ∃ w1, (w.alloc (.cells #[.slice (some ⟨b, o, none⟩) L c] 24)).alloc (.cells ((List.replicate L (0 : Int)).map (Value.int .i64)).toArray 3) = w1 := ⟨_, rfl⟩
  have hmkw := hmk (w.alloc (.cells #[.slice (some ⟨b, o, none⟩) L c] 24))
  rw [hw1] at hmkw
  have HB1 : Hid (Below w.heap.size w w1) := Lib.hid (by rw [← hw1]; exact ((Below.refl _ w).alloc (Nat.le_refl _) _).alloc (by simp) _)
  have HE1 : Hid (w1.heap[w.heap.size]? = some (.cells #[.slice (some ⟨b, o, none⟩) L c] 24 (0, 0))) := Lib.hid (by rw [← hw1]; exact nextAt hE)
  have HG1 : Hid (w1.heap[w.heap.size + 1]? = some (.cells ((List.replicate L (0 : Int)).map (Value.int .i64)).toArray 3 (0, 0))) := Lib.hid (by rw [← hw1]; exact newAt (by simp))
  have HU0 : Hid (UTo l 0 0 (List.replicate L 0)) := Lib.hid ⟨by simp [HL.out], fun i' x k hi' => by omega, fun x k _ hkk => by simp at hkk⟩
  clear hmk hw1 hE hn
  go_enter Tryd.func59, Tryd.ntmps59
  go_upto_region 2 with fail
  go_wp2
  go_loopw [4] (fun s4 wr => ∃ (q : Nat) (U : List Int), s4 = .int .i64 (q : Int) ∧ q ≤ L ∧ Hid (UTo l q 0 U) ∧ Hid (Below w.heap.size w wr) ∧ Hid (wr.heap[w.heap.size]? = some (.cells #[.slice (some ⟨b, o, none⟩) L c] 24 (0, 0))) ∧ Hid (wr.heap[w.heap.size + 1]? = some (.cells (U.map (Value.int .i64)).toArray 3 (0, 0)))) (fun s4 _ => L - (intOf s4).toNat)
  case atStart => exact ⟨0, _, rfl, Nat.zero_le _, HU0, HB1, HE1, HG1⟩
  case round =>
    obtain ⟨q, U, rfl, hq, HU, HB, HE, HG⟩ := hrel
    obtain ⟨w2, rfl⟩ : ∃ w2, w2 = wr := ⟨_, rfl⟩
    have c2 := (Blk_cell HE.out 0).trans rfl
    by_cases hlt : q < L
    · obtain ⟨x, hx⟩ : ∃ x, l[q]? = some x := ⟨_, List.getElem?_eq_getElem (by rw [HL.out]; exact hlt)⟩
      obtain ⟨fv, hfl, m0, m1, m2, m3, m4, m5, m6, m7, m8⟩ := HN.out q x hx
      have lo : ∀ k, w2.cell? ⟨b, k, none⟩ = w.cell? ⟨b, k, none⟩ := fun k => HB.out.cell (p := ⟨b, k, none⟩) hb
      rw [← lo] at m0 m1 m2 m3 m4 m5 m6 m7 m8
      obtain ⟨KL, hKL⟩ : ∃ KL, (kids x).length = KL := ⟨_, rfl⟩
      have HKL := Lib.hid hKL
      have hKLb : KL ≤ 1000003 := by have := kids_len x; have := HS.out x (List.mem_of_getElem? hx); omega
      have HX := Lib.hid hx
      have HA := Lib.hid (hk q x hx)
      have HKI : Hid (Calls Tryd.prog 17 #[.agg #[.int .i64 x.kind, .int .i64 x.a, .int .i64 x.b, .int .i64 x.c, .int .i64 x.n, .string x.nm, .string x.s, fv, .int .i64 x.pos]] w2 fun e W' => ∃ g c, e = .returned (.slice (some ⟨g, 0, none⟩) KL c) ∧ KB W' g (kids x) ∧ w2.heap.size ≤ g ∧ Below w2.heap.size w2 W') := Lib.hid (by
        have h := kids_any (B := w2.heap.size) x fv w2 (Nat.le_refl _) ((hfl.below HB.out).mono HB.out.size) (HS.out x (List.mem_of_getElem? hx))
        unfold ndArr at h
        refine h.mono ?_
        rintro e W' ⟨g, c, rfl, hi, hb⟩
        exact ⟨g, c, by rw [hKL], KB.of hi, (hi.lt g rfl).1, hb⟩)
      obtain ⟨FA, fc, rfl, _⟩ := hfl
      clear lo hKL hx
      go_wp2_with (go_at_call 17; refine HKI.out.mono ?_; rintro e w3 ⟨gk, ck, rfl, hkb, hgk, hb3⟩; have HB3 := Lib.hid (below_next HB.out hb3 (Nat.le_refl _)); have HE3 := Lib.hid (blk_next HE.out hb3); have HG3 := Lib.hid (blk_next HG.out hb3); have KB3 := Lib.hid hkb; have hs2 := (Array.getElem?_eq_some_iff.1 HG.out).1; clear hb3 hkb)
      go_loopw [6] (fun s6 wr => ∃ (j : Nat) (U : List Int), s6 = .int .i64 (j : Int) ∧ j ≤ KL ∧ Hid (UTo l q j U) ∧ Hid (Below w.heap.size w wr) ∧ Hid (wr.heap[w.heap.size]? = some (.cells #[.slice (some ⟨b, o, none⟩) L c] 24 (0, 0))) ∧ Hid (wr.heap[w.heap.size + 1]? = some (.cells (U.map (Value.int .i64)).toArray 3 (0, 0))) ∧ Hid (KB wr gk (kids x))) (fun s6 _ => KL - (intOf s6).toNat)
      case atStart => exact ⟨0, U, rfl, Nat.zero_le _, HU, HB3, HE3, HG3, KB3⟩
      case round =>
        clear HU HB HE HG HB3 HE3 HG3 KB3 c2 m0 m1 m2 m3 m4 m5 m6 m7 m8 HKI
        obtain ⟨j, U2, rfl, hj, HU, HB, HE, HG, HK⟩ := hrel
        by_cases hj2 : j < KL
        · obtain ⟨kz, hkz⟩ : ∃ kz, (kids x)[j]? = some kz := ⟨_, List.getElem?_eq_getElem (by rw [HKL.out]; exact hj2)⟩
          have hkm := HA.out kz (List.mem_of_getElem? hkz)
          obtain ⟨m, rfl⟩ : ∃ m : Nat, kz = (m : Int) := ⟨kz.toNat, by omega⟩
          have hml : m < L := by omega
          have z1 := HK.out.cell hkz
          have HU2 := Lib.hid (HU.out.step hk HNO.out HX.out hkz)
          obtain ⟨u, hu⟩ : ∃ u, U2[m]? = some u := ⟨_, List.getElem?_eq_getElem (by have := HU.out.1; have := HL.out; omega)⟩
          have z2 : wr.cell? ⟨w.heap.size + 1, m, none⟩ = some (.int .i64 u) := (Blk_cell HG.out m).trans (by simp [hu])
          have f2 := Blk_frozen HG.out m
          have HG2 : Hid ((wr.setCell ⟨w.heap.size + 1, m, none⟩ (.int .i64 (q : Int))).heap[w.heap.size + 1]? = some (.cells ((U2.set m (q : Int)).map (Value.int .i64)).toArray 3 (0, 0))) := Lib.hid (set_row HG.out)
          have HE2 : Hid ((wr.setCell ⟨w.heap.size + 1, m, none⟩ (.int .i64 (q : Int))).heap[w.heap.size]? = some (.cells #[.slice (some ⟨b, o, none⟩) L c] 24 (0, 0))) := Lib.hid ((set_far _ _ _ _ _ (by omega)).trans HE.out)
          have HB2 := Lib.hid (HB.out.setCell (p := ⟨w.heap.size + 1, m, none⟩) (by show w.heap.size ≤ w.heap.size + 1; omega) (.int .i64 (q : Int)))
          have hgne : gk ≠ w.heap.size + 1 := by omega
          have HK2 : Hid (KB (wr.setCell ⟨w.heap.size + 1, m, none⟩ (.int .i64 (q : Int))) gk (kids x)) := Lib.hid (by
            obtain ⟨cs, h1, h2⟩ := HK.out
            exact ⟨cs, (set_far _ _ _ _ _ hgne).trans h1, h2⟩)
          clear hkz hkm hu
          go_wp2
          go_roundw
          case rel => exact ⟨j + 1, _, by go_num, by omega, HU2, HB2, HE2, HG2, HK2⟩
          case measure => simp [intOf]; omega
        · obtain rfl : j = KL := by omega
          have HU2 : Hid (UTo l (q + 1) 0 U2) := Lib.hid ((HKL.out ▸ HU.out).up HX.out)
          go_wp2
          go_roundw
          case rel => exact ⟨q + 1, _, by go_num, by omega, HU2, HB, HE, HG⟩
          case measure => simp [intOf]; omega
    · obtain rfl : q = L := by omega
      have HF := Lib.hid ((show UTo l l.length 0 U from HL.out ▸ HU.out).fin hk (by rw [HL.out]; exact h0))
      obtain ⟨u, hu⟩ : ∃ u, U[q - 1]? = some u := ⟨_, List.getElem?_eq_getElem (by have := HU.out.1; have := HL.out; omega)⟩
      have z2 : w2.cell? ⟨w.heap.size + 1, q - 1, none⟩ = some (.int .i64 u) := (Blk_cell HG.out (q - 1)).trans (by simp [hu])
      have f2 := Blk_frozen HG.out (q - 1)
      have e1 : ((q : Int) - 1).toNat = q - 1 := by omega
      have HG2 : Hid ((w2.setCell ⟨w.heap.size + 1, q - 1, none⟩ (.int .i64 (-1))).heap[w.heap.size + 1]? = some (.cells ((U.set (q - 1) (-1)).map (Value.int .i64)).toArray 3 (0, 0))) := Lib.hid (set_row HG.out)
      have HB2 := Lib.hid (HB.out.setCell (p := ⟨w.heap.size + 1, q - 1, none⟩) (by show w.heap.size ≤ w.heap.size + 1; omega) (.int .i64 (-1)))
      clear hu
      go_wp2
      go_ret
      refine ⟨_, _, ?_, HG2.out, ?_, by omega, HB2.out⟩
      · rw [HL.out]; rfl
      · have := HF.out; rwa [HL.out] at this
end Go.Proofs.YteikpeaakmbihaaDoor.T
/- The document's binds: does a node bind a name for a child? -/
namespace Go.Proofs.YteikpeaakmbihaaDoor.T
open Go.RowKit
theorem ri {a b : Int} (h : a = b) : Ending.returned (.int .i64 a) = .returned (.int .i64 b) := by rw [h]
set_option maxRecDepth 100000 in
set_option maxHeartbeats 8000000 in
theorem rbinds_any (x : Nd) (fv : Value) (c : Int) (s : ByteArray) (w : World) (hF : Flds w.heap.size w fv x.l) (hl : x.l.length ≤ 1000000) :
    Calls Tryd.prog 60 #[.agg (ndArr x fv), .int .i64 c, .string s] w fun e w' => e = .returned (.int .i64 (bnd x c s)) ∧ Below w.heap.size w w' := by
  obtain ⟨R, hR⟩ : ∃ R, bnd x c s = R := ⟨_, rfl⟩
  rw [hR]
  obtain ⟨K, hK⟩ : ∃ K, x.kind = K := ⟨_, rfl⟩
  obtain ⟨FA, fc, rfl, _, _, hq⟩ := hF
  obtain ⟨FL, hFL⟩ : ∃ FL, x.l.length = FL := ⟨_, rfl⟩
  have HFL := Lib.hid hFL
  rw [hFL] at hl hq
  have HB0 : Hid (Below w.heap.size w (w.alloc (.cells #[.int .i64 K, .int .i64 x.a, .int .i64 x.b, .int .i64 x.c, .int .i64 x.n, .string x.nm, .string x.s, .slice FA FL fc, .int .i64 x.pos] 27))) := Lib.hid ((Below.refl _ _).alloc (Nat.le_refl _) _)
  unfold ndArr
  rw [hK, hFL]
  rw [bnd, hK] at hR
  by_cases h5 : K = 5 ∨ K = 8
  · cases hs : (x.nm.toList == s.toList) with
    | true =>
      rw [if_pos ⟨hs, by omega⟩] at hR
      subst hR
      rcases h5 with rfl | rfl
      all_goals
        clear hK hFL hq
        go_enter Tryd.func60, Tryd.ntmps60
        go_wp2
        go_ret
        exact ⟨rfl, HB0.out⟩
    | false =>
      rw [if_neg (fun h => by rw [hs] at h; simp at h), if_neg (by omega)] at hR
      subst hR
      rcases h5 with rfl | rfl
      all_goals
        clear hK hFL hq
        go_enter Tryd.func60, Tryd.ntmps60
        go_wp2
        go_ret
        exact ⟨rfl, HB0.out⟩
  · by_cases h7 : K = 7
    · subst h7
      cases hs : (x.nm.toList == s.toList) with
      | true =>
        cases hc : (c == x.b) with
        | true =>
          have hcb : c = x.b := by simpa using hc
          rw [if_pos ⟨hs, by omega⟩] at hR
          subst hR
          clear hK hFL hq hcb
          go_enter Tryd.func60, Tryd.ntmps60
          go_wp2
          go_ret
          exact ⟨rfl, HB0.out⟩
        | false =>
          have hcb : ¬ c = x.b := by simpa using hc
          rw [if_neg (fun h => by omega), if_neg (by omega)] at hR
          subst hR
          clear hK hFL hq hcb
          go_enter Tryd.func60, Tryd.ntmps60
          go_wp2
          go_ret
          exact ⟨rfl, HB0.out⟩
      | false =>
        rw [if_neg (fun h => by rw [hs] at h; simp at h), if_neg (by omega)] at hR
        subst hR
        clear hK hFL hq
        go_enter Tryd.func60, Tryd.ntmps60
        go_wp2
        go_ret
        exact ⟨rfl, HB0.out⟩
    · rw [if_neg (fun h => by omega)] at hR
      by_cases h14 : K = 14
      · subst h14
        rw [if_pos rfl] at hR
        have HR := Lib.hid hR
        have HQ := Lib.hid hq
        clear hK hFL hq hR h5 h7
        go_enter Tryd.func60, Tryd.ntmps60
        go_wp2
        go_loop [7] (fun s7 => ∃ q : Nat, s7 = .int .i64 (q : Int) ∧ q ≤ FL ∧ Hid (∀ (j : Nat) (f : Fld), j < q → x.l[j]? = some f → (f.pl == c && f.vr.toList == s.toList) = false)) (fun s7 => FL - (intOf s7).toNat)
        case atStart => exact ⟨0, rfl, Nat.zero_le _, Lib.hid fun j f hj => by omega⟩
        case round =>
          obtain ⟨q, rfl, hq, HP⟩ := hrel
          by_cases hlt : q < FL
          · obtain ⟨b, o, rfl, hb, hat⟩ := HQ.out (by omega)
            obtain ⟨f, hf⟩ : ∃ f, x.l[q]? = some f := ⟨_, List.getElem?_eq_getElem (by rw [HFL.out]; exact hlt)⟩
            obtain ⟨m0, m1, m2⟩ := hat q f hf
            have n1 := (HB0.out.cell (p := ⟨b, o + q * 3 + 1, none⟩) hb).trans m1
            have n2 := (HB0.out.cell (p := ⟨b, o + q * 3 + 2, none⟩) hb).trans m2
            have HF := Lib.hid hf
            clear hat m0 m1 m2 hf
            have nxt : (f.pl == c && f.vr.toList == s.toList) = false → ∀ (j : Nat) (f : Fld), j < q + 1 → x.l[j]? = some f → (f.pl == c && f.vr.toList == s.toList) = false := fun h j g hj hg => by
              by_cases e : j = q
              · subst e
                have := HF.out.symm.trans hg
                cases this
                exact h
              · exact HP.out j g (by omega) hg
            have NX := Lib.hid nxt
            clear nxt
            cases hp : (f.pl == c) with
            | true =>
              cases hv : (f.vr.toList == s.toList) with
              | true =>
                have hRq : R = (q : Int) := by
                  rw [← HR.out]
                  have hq2 : q < x.l.length := by rw [HFL.out]; exact hlt
                  have hf2 : x.l[q] = f := by have := HF.out; rw [List.getElem?_eq_getElem hq2] at this; exact Option.some.inj this
                  have e : x.l.findIdx? (fun f => f.pl == c && f.vr.toList == s.toList) = some q := by
                    rw [List.findIdx?_eq_some_iff_getElem]
                    refine ⟨hq2, by rw [hf2, hp, hv]; rfl, fun j hj => ?_⟩
                    have := HP.out j x.l[j] hj (List.getElem?_eq_getElem (by omega))
                    simpa using this
                  rw [e]
                subst hRq
                go_wp2
                go_ret
                exact ⟨rfl, HB0.out⟩
              | false =>
                have HP2 := Lib.hid (NX.out (by rw [hp, hv]; rfl))
                go_wp2
                go_round
                case rel => exact ⟨q + 1, by go_num, by omega, HP2⟩
                case measure => simp [intOf]; omega
            | false =>
              have HP2 := Lib.hid (NX.out (by rw [hp]; rfl))
              go_wp2
              go_round
              case rel => exact ⟨q + 1, by go_num, by omega, HP2⟩
              case measure => simp [intOf]; omega
          · obtain rfl : q = FL := by omega
            have hR2 : R = -2 := by
              rw [← HR.out]
              have e : x.l.findIdx? (fun f => f.pl == c && f.vr.toList == s.toList) = none := by
                rw [List.findIdx?_eq_none_iff]
                intro f hf
                obtain ⟨j, hj⟩ := List.getElem?_of_mem hf
                exact HP.out j f (by have := (List.getElem?_eq_some_iff.1 hj).1; have := HFL.out; omega) hj
              rw [e]
            subst hR2
            go_wp2
            go_ret
            exact ⟨rfl, HB0.out⟩
      · rw [if_neg h14] at hR
        subst hR
        have d5 : (K == 5) = false := by simpa using (by omega : ¬ K = 5)
        have d8 : (K == 8) = false := by simpa using (by omega : ¬ K = 8)
        have d7 : (K == 7) = false := by simpa using h7
        have d14 : (K == 14) = false := by simpa using h14
        clear hK hFL hq h5 h7 h14
        go_enter Tryd.func60, Tryd.ntmps60
        go_wp2
        go_ret
        exact ⟨rfl, HB0.out⟩
end Go.Proofs.YteikpeaakmbihaaDoor.T
