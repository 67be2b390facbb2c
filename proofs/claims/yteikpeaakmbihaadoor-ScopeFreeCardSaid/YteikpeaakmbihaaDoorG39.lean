/- Joined by program: SRefB. -/
import Derived.Test.YteikpeaakmbihaaDoorG38
/- Binders, the document's. -/
namespace Go.Proofs.YteikpeaakmbihaaDoor.T
open Go.RowKit Go.Shelf
theorem bnd60Info : (Tryd.prog.info? 60).map (fun i => (i.zero, i.size, i.bytes)) = some (some (.agg #[.int .i64 0, .int .i64 0]), 2, 16) := by kernel_rfl
theorem new2 (W : World) (t : TypeId) (a b : Value) (j : Nat) (u : Value) (h : [a, b][j]? = some u) : (W.alloc (.cells #[a, b] t)).cell? ((⟨W.heap.size, 0, none⟩ : Addr).add j) = some u := by
  rw [Addr.add_lit, Nat.zero_add, Blk_cell (newAt rfl)]
  simpa using h
/-- A row of binders in memory. -/
def RowB (W : World) (g : Nat) (xs : List (Int × Int)) : Prop := ∃ (cs : Array Value) (t : TypeId), W.heap[g]? = some (.cells cs t (0, 0)) ∧ (t = 59 ∨ t = 60) ∧ ∀ (i : Nat) (p : Int × Int), xs[i]? = some p → cs[i * 2]? = some (Value.int .i64 p.1) ∧ cs[i * 2 + 1]? = some (Value.int .i64 p.2)
theorem RowB.next {W W' : World} {g : Nat} {xs : List (Int × Int)} (h : RowB W g xs) (hb : Below W.heap.size W W') : RowB W' g xs := by
  obtain ⟨cs, t, h1, h2⟩ := h
  exact ⟨cs, t, blk_next h1 hb, h2⟩
theorem RowB.cell {W : World} {g : Nat} {xs : List (Int × Int)} (h : RowB W g xs) {i : Nat} {p : Int × Int} (hp : xs[i]? = some p) : W.cell? ⟨g, i * 2, none⟩ = some (.int .i64 p.1) ∧ W.cell? ⟨g, i * 2 + 1, none⟩ = some (.int .i64 p.2) := by
  obtain ⟨cs, t, h1, _, h2⟩ := h
  exact ⟨(Blk_cell h1 _).trans (h2 i p hp).1, (Blk_cell h1 _).trans (h2 i p hp).2⟩
/-- A row that grows leaves what is of another type as it was. -/
theorem blk_kept {W W' : World} {B e sz n g : Nat} {v : Value} {ys : List Value} {cs : Array Value} {t : TypeId} (h : W.heap[g]? = some (.cells cs t (0, 0))) (hr : W.ownsRow B e sz v n ys) (hne : t ≠ e) (hg : W.grownBy W' v.ownBlock) : W'.heap[g]? = some (.cells cs t (0, 0)) := by
  refine (hg.block g (Array.getElem?_eq_some_iff.1 h).1 fun e => ?_).trans h
  rcases hr.2 with ⟨rfl, _⟩ | ⟨g', cap, cur, rfl, _, hh, _⟩
  · simp [Value.ownBlock] at e
  · have : g = g' := by simpa [Value.ownBlock] using e
    subst this
    exact blk_ne h hh hne rfl
theorem RowB.kept {W W' : World} {B e sz n g : Nat} {v : Value} {ys : List Value} {xs : List (Int × Int)} (h : RowB W g xs) (hr : W.ownsRow B e sz v n ys) (he : e < 59) (hg : W.grownBy W' v.ownBlock) : RowB W' g xs := by
  obtain ⟨cs, t, h1, h2, h3⟩ := h
  exact ⟨cs, t, blk_kept h1 hr (fun hh => by rcases h2 with h2 | h2 <;> (rw [h2] at hh; subst hh; exact absurd he (by decide))) hg, h2, h3⟩
theorem RowB.of {B g q c t : Nat} {W : World} {xs : List (Int × Int)} (ht : t = 59 ∨ t = 60) (h : W.ownsRow B t 2 (.slice (some ⟨g, 0, none⟩) q c) q (bCells xs)) : RowB W g xs := by
  have hc := fun (j : Nat) (v : Value) (hv : (bCells xs)[j]? = some v) => World.ownsRow.cells h (g := g) rfl j v hv
  rcases h.2 with ⟨h, _⟩ | ⟨g', cap, cur, h, _, hh, _⟩
  · exact absurd h (by simp)
  · cases h
    refine ⟨cur, t, hh, ht, fun i p hp => ?_⟩
    have h1 := hc (2 * i) _ (bCells_at xs i p hp).1
    have h2 := hc (2 * i + 1) _ (bCells_at xs i p hp).2
    rw [Addr.add_lit, Nat.zero_add, Nat.mul_comm, Blk_cell hh] at h1 h2
    exact ⟨h1, h2⟩
theorem RowB.blk {W : World} {g : Nat} {xs : List (Int × Int)} (h : W.heap[g]? = some (.cells (bCells xs).toArray 59 (0, 0))) : RowB W g xs :=
  ⟨_, 59, h, .inl rfl, fun i p hp => by have := bCells_at xs i p hp; rw [Nat.mul_comm] at this; simpa using this⟩
def RBPost (l : List Nd) (w : World) (e : Ending) (w' : World) : Prop := ∃ g c U, e = .returned (.slice (some ⟨g, 0, none⟩) l.length c) ∧ UPar l U ∧ RowB w' g (bds l U) ∧ Below w.heap.size w w'
/-- Where the document's Binders stands. -/
structure QSt (w W : World) (e : Value) (gp : Nat) (U : List Int) (v : Value) (q : Nat) (xs : List (Int × Int)) : Prop where
  low : Below w.heap.size w W
  e : W.heap[w.heap.size]? = some (.cells #[e] 24 (0, 0))
  p : W.heap[gp]? = some (.cells (U.map (Value.int .i64)).toArray 3 (0, 0))
  r : W.ownsRow (w.heap.size + 1) 60 2 v q (bCells xs)
section
variable {w W W' : World} {e v v2 : Value} {gp q : Nat} {U : List Int} {xs : List (Int × Int)}
theorem QSt.next (h : QSt w W e gp U v q xs) (hb : Below W.heap.size W W') : QSt w W' e gp U v q xs :=
  ⟨below_next h.low hb (Nat.le_refl _), blk_next h.e hb, blk_next h.p hb, World.ownsRow.kept h.r (grown_of hb) (ne_none _)⟩
theorem QSt.size (h : QSt w W e gp U v q xs) : w.heap.size + 1 ≤ W.heap.size := (Array.getElem?_eq_some_iff.1 h.e).1
theorem QSt.push {o : Obj} {p : Int × Int} (h : QSt w W e gp U v q xs) (h1 : W'.ownsRow (w.heap.size + 1) 60 2 v2 (q + 1) (bCells xs ++ [.int .i64 p.1, .int .i64 p.2])) (h2 : (W.alloc o).grownBy W' v.ownBlock) : QSt w W' e gp U v2 (q + 1) (xs ++ [p]) := by
  have h' := h.next ((Below.refl W.heap.size W).alloc (Nat.le_refl _) o)
  have hs := h'.size
  have hbl : ∀ k, k < w.heap.size + 1 → W'.heap[k]? = (W.alloc o).heap[k]? := fun k hk => h2.block k (by omega) (fun e => by have := (h'.r.lt k e.symm).1; omega)
  refine ⟨⟨h2.os.trans h'.low.os, h2.tape.trans h'.low.tape, h2.output.trans h'.low.output, by have := h2.size; omega, fun k hk => (hbl k (by omega)).trans (h'.low.block k hk)⟩, (hbl _ (by omega)).trans h'.e, ?_, by have e : bCells (xs ++ [p]) = bCells xs ++ [.int .i64 p.1, .int .i64 p.2] := by simp [bCells]
                                                                                                                                                                                                                        rw [e]; exact h1⟩
  refine (h2.block gp (Array.getElem?_eq_some_iff.1 h'.p).1 fun e => ?_).trans h'.p
  rcases h'.r.2 with ⟨rfl, _⟩ | ⟨g', cap, cur, rfl, _, hh, _⟩
  · simp [Value.ownBlock] at e
  · have : gp = g' := by simpa [Value.ownBlock] using e
    subst this
    exact blk_ne h'.p hh (by decide) rfl
end
set_option maxRecDepth 100000 in
set_option maxHeartbeats 16000000 in
theorem rbind_any (l : List Nd) (L c b o : Nat) (HL : Hid (l.length = L)) (hk : kidsOk l) (ho : onceOk l) (h0 : 1 ≤ L) (h6 : L ≤ 600) (w : World) (hb : b < w.heap.size) (HN : Hid (NdsAt w.heap.size w b o l)) (HS : Hid (∀ x ∈ l, x.l.length ≤ 1000000)) :
    Calls Tryd.prog 33 #[.agg #[.slice (some ⟨b, o, none⟩) L c]] w (RBPost l w) := by
  obtain ⟨j0, hj0, hy0, hy1, hy2⟩ := info_parts bnd60Info
  have HB0 : Hid (Below w.heap.size w (w.alloc (.cells #[.slice (some ⟨b, o, none⟩) L c] 24))) := Lib.hid ((Below.refl _ w).alloc (Nat.le_refl _) _)
  have HE0 : Hid ((w.alloc (.cells #[.slice (some ⟨b, o, none⟩) L c] 24)).heap[w.heap.size]? = some (.cells #[.slice (some ⟨b, o, none⟩) L c] 24 (0, 0))) := Lib.hid (newAt rfl)
  have HPA := Lib.hid (rpar_any l L c b o HL hk ho.1 h0 h6 (w.alloc (.cells #[.slice (some ⟨b, o, none⟩) L c] 24)) (by simp; omega) (Lib.hid fun j x hj => ((HN.out j x hj).below HB0.out hb).mono HB0.out.size) HS)
  have HPR : Hid (∀ (U : List Int) (ch : Nat) (u : Int), UPar l U → U[ch]? = some u → 0 ≤ u → ∃ (m : Nat) (y : Nd), u = (m : Int) ∧ l[m]? = some y ∧ ch < m ∧ m < L) := Lib.hid fun U ch u hU hu h0 => by
    obtain ⟨hU1, hU2, hU3⟩ := hU
    have hch := (List.getElem?_eq_some_iff.1 hu).1
    by_cases he : ch + 1 < l.length
    · obtain ⟨m, y, hy, hm⟩ := mem_allKids.1 (ho.2 ch he)
      have h1 := hU2 m y ch hy hm
      rw [Int.toNat_natCast, hu] at h1
      have h2 := hk m y hy _ hm
      have h3 := (List.getElem?_eq_some_iff.1 hy).1
      exact ⟨m, y, Option.some.inj h1, hy, by omega, by have := HL.out; omega⟩
    · obtain rfl : ch = l.length - 1 := by omega
      rw [hu] at hU3
      have := Option.some.inj hU3
      omega
  clear ho
  go_enter Tryd.func33, Tryd.ntmps33
  go_upto_region 2 with (go_at_call 59; refine HPA.out.mono ?_; rintro e w1 ⟨gp, U, rfl, hg, hu, hgp, hb1⟩; have HB1 := Lib.hid (below_next HB0.out hb1 (Nat.le_refl _)); have HE1 := Lib.hid (blk_next HE0.out hb1); have HU := Lib.hid hu; have HG1 := Lib.hid hg; rw [HL.out]; clear hb1 hg hu)
  have HQ0 : Hid (QSt w (w1.alloc (.cells #[] 60)) (.slice (some ⟨b, o, none⟩) L c) gp U (.slice (some ⟨w1.heap.size, 0, none⟩) 0 0) 0 []) := Lib.hid (by
    have hal := (Below.refl w1.heap.size w1).alloc (Nat.le_refl _) (.cells #[] 60)
    have hs := (Array.getElem?_eq_some_iff.1 HE1.out).1
    exact ⟨below_next HB1.out hal (Nat.le_refl _), blk_next HE1.out hal, blk_next HG1.out hal, World.ownsRow_made (base := w.heap.size + 1) (e := 60) (size := 2) w1 #[] 0 (by omega) (by decide) rfl⟩)
  go_wp2
  go_loopw [4, 5] (fun s4 s5 wr => ∃ (q g k : Nat), s4 = .slice (some ⟨g, 0, none⟩) q k ∧ s5 = .int .i64 (q : Int) ∧ q ≤ L ∧ Hid (QSt w wr (.slice (some ⟨b, o, none⟩) L c) gp U (.slice (some ⟨g, 0, none⟩) q k) q ((bds l U).take q))) (fun _ s5 _ => L - (intOf s5).toNat)
  case atStart => exact ⟨0, _, _, rfl, rfl, Nat.zero_le _, HQ0⟩
  case round =>
    obtain ⟨q, g, k, rfl, rfl, hq, HQ⟩ := hrel
    clear HQ0 HE1 HB1 HG1 HPA HE0 HB0
    obtain ⟨w2, rfl⟩ : ∃ w2, w2 = wr := ⟨_, rfl⟩
    have c2 := (Blk_cell HQ.out.e 0).trans rfl
    by_cases hlt : q < L
    · obtain ⟨x, hx⟩ : ∃ x, l[q]? = some x := ⟨_, List.getElem?_eq_getElem (by rw [HL.out]; exact hlt)⟩
      have HND : Hid (∀ (m : Nat) (y : Nd), l[m]? = some y → ∃ A n1 n2, Flds w.heap.size w (.slice A n1 n2) y.l ∧ ∀ W, Below w.heap.size w W → W.cell? ⟨b, o + m * 9, none⟩ = some (.int .i64 y.kind) ∧ W.cell? ⟨b, o + m * 9 + 1, none⟩ = some (.int .i64 y.a) ∧ W.cell? ⟨b, o + m * 9 + 2, none⟩ = some (.int .i64 y.b) ∧ W.cell? ⟨b, o + m * 9 + 3, none⟩ = some (.int .i64 y.c) ∧ W.cell? ⟨b, o + m * 9 + 4, none⟩ = some (.int .i64 y.n) ∧ W.cell? ⟨b, o + m * 9 + 5, none⟩ = some (.string y.nm) ∧ W.cell? ⟨b, o + m * 9 + 6, none⟩ = some (.string y.s) ∧ W.cell? ⟨b, o + m * 9 + 7, none⟩ = some (.slice A n1 n2) ∧ W.cell? ⟨b, o + m * 9 + 8, none⟩ = some (.int .i64 y.pos)) := Lib.hid fun m y hy => by
        obtain ⟨fv, hfl, m0, m1, m2, m3, m4, m5, m6, m7, m8⟩ := HN.out m y hy
        have hfl' := hfl
        obtain ⟨A, n, rfl, _⟩ := hfl
        refine ⟨A, _, n, hfl', fun W hbw => ?_⟩
        have e : ∀ k, W.cell? ⟨b, k, none⟩ = w.cell? ⟨b, k, none⟩ := fun k => hbw.cell (p := ⟨b, k, none⟩) hb
        exact ⟨(e _).trans m0, (e _).trans m1, (e _).trans m2, (e _).trans m3, (e _).trans m4, (e _).trans m5, (e _).trans m6, (e _).trans m7, (e _).trans m8⟩
      obtain ⟨XA, XN1, XN2, _, hxc⟩ := HND.out q x hx
      have HXC := Lib.hid hxc
      have HBD := Lib.hid (bds_at (U := U) hx)
      have B3 : Hid (Below w2.heap.size w2 (w2.alloc (.cells #[.int .i64 (-1), .int .i64 (-1)] 60))) := Lib.hid ((Below.refl _ w2).alloc (Nat.le_refl _) _)
      have V3 : Hid ((w2.alloc (.cells #[.int .i64 (-1), .int .i64 (-1)] 60)).heap[w2.heap.size]? = some (.cells #[.int .i64 (-1), .int .i64 (-1)] 60 (0, 0))) := Lib.hid (newAt rfl)
      have x0 := (HXC.out _ (below_next HQ.out.low B3.out (Nat.le_refl _))).1
      have e0 := (Blk_cell (HQ.out.next B3.out).e 0).trans rfl
      obtain ⟨K, hK⟩ : ∃ K, x.kind = K := ⟨_, rfl⟩
      rw [hK] at x0
      have HK := Lib.hid hK
      obtain ⟨P, hP⟩ : ∃ P, (if x.kind = 4 then upw l U q x.nm else (-1, -1)) = P := ⟨_, rfl⟩
      rw [hP] at HBD
      have HP := Lib.hid hP
      obtain ⟨P1, P2⟩ := P
      have HX := Lib.hid hx
      clear hx hxc hK hP
      go_upto_if 27 with fail
      go_cut [] (fun wx => Hid (Below w2.heap.size w2 wx) ∧ Hid (wx.heap[w2.heap.size]? = some (.cells #[.int .i64 P1, .int .i64 P2] 60 (0, 0))))
      case first =>
        by_cases h4 : K = 4
        · subst h4
          rw [show ((4 : Int) == 4) = true from rfl]
          have HP4 : Hid (upw l U q x.nm = (P1, P2)) := Lib.hid (by have := HP.out; rwa [if_pos HK.out] at this)
          obtain ⟨u0, hu0⟩ : ∃ u0, U[q]? = some u0 := ⟨_, List.getElem?_eq_getElem (by have := HU.out.1; have := HL.out; omega)⟩
          have z0 : (w2.alloc (.cells #[.int .i64 (-1), .int .i64 (-1)] 60)).cell? ⟨gp, q, none⟩ = some (.int .i64 u0) := (Blk_cell (HQ.out.next B3.out).p q).trans (by simp [hu0])
          have HU0 := Lib.hid hu0
          have hUL : U.length = L := by rw [← HL.out]; exact HU.out.1
          clear hu0
          go_wp2_with fail
          go_loopw [7, 8] (fun s7 s8 wr => ∃ (ch : Nat) (u n1 n2 : Int), s7 = .int .i64 (ch : Int) ∧ s8 = .int .i64 u ∧ ch < L ∧ Hid (U[ch]? = some u) ∧ Hid (Below w2.heap.size w2 wr) ∧ Hid (wr.heap[w2.heap.size]? = some (.cells #[.int .i64 n1, .int .i64 n2] 60 (0, 0))) ∧ Hid ((n1 = -1 ∧ n2 = -1 ∧ upw l U ch x.nm = (P1, P2)) ∨ (n1 = P1 ∧ n2 = P2 ∧ 0 ≤ n1))) (fun s7 _ _ => L - (intOf s7).toNat)
          case atStart => exact ⟨q, u0, -1, -1, rfl, rfl, hlt, HU0, B3, V3, Lib.hid (.inl ⟨rfl, rfl, HP4.out⟩)⟩
          case round =>
            obtain ⟨ch, u, n1, n2, rfl, rfl, hch, HUC, HB, HV, HC⟩ := hrel
            clear x0 e0 z0 c2
            have QR := Lib.hid (HQ.out.next HB.out)
            have v0 := (Blk_cell HV.out 0).trans rfl
            have v1 := (Blk_cell HV.out 1).trans rfl
            have r0 := (Blk_cell QR.out.e 0).trans rfl
            rcases HC.out with ⟨rfl, rfl, hup⟩ | ⟨rfl, rfl, hn0⟩
            · by_cases hu : 0 ≤ u
              · obtain ⟨m, y, rfl, hy, hcm, hmL⟩ := HPR.out U ch u HU.out HUC.out hu
                obtain ⟨YA, YN1, YN2, hyf, hyc⟩ := HND.out m y hy
                obtain ⟨um, hum⟩ : ∃ um, U[m]? = some um := ⟨_, List.getElem?_eq_getElem (by omega)⟩
                have HUM := Lib.hid hum
                have HYF := Lib.hid hyf
                have HYC := Lib.hid hyc
                have HYL := Lib.hid (HS.out y (List.mem_of_getElem? hy))
                have HUP := Lib.hid (upw_kid HUC.out hy hcm x.nm)
                have HUQ := Lib.hid hup
                obtain ⟨D, hD⟩ : ∃ D, bnd y ch x.nm = D := ⟨_, rfl⟩
                rw [hD] at HUP
                have HBN : Hid (∀ W, Below w.heap.size w W → Calls Tryd.prog 60 #[.agg #[.int .i64 y.kind, .int .i64 y.a, .int .i64 y.b, .int .i64 y.c, .int .i64 y.n, .string y.nm, .string y.s, .slice YA YN1 YN2, .int .i64 y.pos], .int .i64 (ch : Int), .string x.nm] W fun e w' => e = .returned (.int .i64 D) ∧ Below W.heap.size W w') := Lib.hid fun W hbw => hD ▸ rbinds_any y _ _ _ W ((HYF.out.below hbw).mono hbw.size) HYL.out
                have QRd := Lib.hid (QR.out.next (Below.refl _ _).drew)
                have HVd : Hid (wr.drew.heap[w2.heap.size]? = some (.cells #[.int .i64 (-1), .int .i64 (-1)] 60 (0, 0))) := HV
                have HBd := Lib.hid HB.out.drew
                clear hD hy hyc hyf hup hum HC
                go_upto_region 11 with fail
                go_region_held3 (fun W => W.cell? ⟨w.heap.size, 0, none⟩ = some (.slice (some ⟨b, o, none⟩) L c) ∧ W.cell? ⟨b, o + q * 9 + 5, none⟩ = some (.string x.nm) ∧ W.cell? ⟨b, o + m * 9, none⟩ = some (.int .i64 y.kind) ∧ W.cell? ⟨b, o + m * 9 + 1, none⟩ = some (.int .i64 y.a) ∧ W.cell? ⟨b, o + m * 9 + 2, none⟩ = some (.int .i64 y.b) ∧ W.cell? ⟨b, o + m * 9 + 3, none⟩ = some (.int .i64 y.c) ∧ W.cell? ⟨b, o + m * 9 + 4, none⟩ = some (.int .i64 y.n) ∧ W.cell? ⟨b, o + m * 9 + 5, none⟩ = some (.string y.nm) ∧ W.cell? ⟨b, o + m * 9 + 6, none⟩ = some (.string y.s) ∧ W.cell? ⟨b, o + m * 9 + 7, none⟩ = some (.slice YA YN1 YN2) ∧ W.cell? ⟨b, o + m * 9 + 8, none⟩ = some (.int .i64 y.pos))
                  (first | exact ⟨(Blk_cell QRd.out.e 0).trans rfl, (HXC.out _ QRd.out.low).2.2.2.2.2.1, HYC.out _ QRd.out.low⟩ | exact ⟨(Blk_cell Q4.out.e 0).trans rfl, (HXC.out _ Q4.out.low).2.2.2.2.2.1, HYC.out _ Q4.out.low⟩)
                  ((go_at_call 60; refine (HBN.out _ QRd.out.low).mono ?_; rintro e w4 ⟨rfl, hb4⟩; have Q4 := Lib.hid (QRd.out.next hb4); have V4 := Lib.hid (blk_next HVd.out hb4); have B4 := Lib.hid (below_next HBd.out hb4 (Nat.le_refl _)); have v40 := (Blk_cell V4.out 0).trans rfl; have v41 := (Blk_cell V4.out 1).trans rfl; have f40 := Blk_frozen V4.out 0; have f41 := Blk_frozen V4.out 1; have p4 : w4.cell? ⟨gp, m, none⟩ = some (.int .i64 um) := (Blk_cell Q4.out.p m).trans (by simp [HUM.out]); clear hb4))
                all_goals
                  by_cases hd : -2 < D
                  · have hR : Hid (((m : Int), D) = (P1, P2)) := Lib.hid (by rw [← HUQ.out, HUP.out, if_pos hd])
                    have e1 : (m : Int) = P1 := congrArg Prod.fst hR.out
                    have e2 : D = P2 := congrArg Prod.snd hR.out
                    have V5 : Hid (((w4.setCell ⟨w2.heap.size, 0, none⟩ (.int .i64 (m : Int))).setCell ⟨w2.heap.size, 1, none⟩ (.int .i64 D)).heap[w2.heap.size]? = some (.cells #[.int .i64 (m : Int), .int .i64 D] 60 (0, 0))) := Lib.hid (blk_put (j := 1) (blk_put (j := 0) V4.out))
                    have B5 := Lib.hid ((B4.out.setCell (p := ⟨w2.heap.size, 0, none⟩) (Nat.le_refl _) (.int .i64 (m : Int))).setCell (p := ⟨w2.heap.size, 1, none⟩) (Nat.le_refl _) (.int .i64 D))
                    have hgp : Hid (gp ≠ w2.heap.size) := Lib.hid (by have := (Array.getElem?_eq_some_iff.1 HQ.out.p).1; omega)
                    have p5 : ((w4.setCell ⟨w2.heap.size, 0, none⟩ (.int .i64 (m : Int))).setCell ⟨w2.heap.size, 1, none⟩ (.int .i64 D)).cell? ⟨gp, m, none⟩ = some (.int .i64 um) := by
                      rw [World.cell?_of_block (w := w4) ((set_far _ _ _ _ _ hgp.out).trans (set_far _ _ _ _ _ hgp.out))]; exact p4
                    have E5 := Lib.hid e1
                    have E6 := Lib.hid e2
                    clear e1 e2
                    go_wp2_with fail
                    go_roundw
                    case rel => exact ⟨m, um, m, D, rfl, rfl, hmL, HUM, B5, V5, Lib.hid (.inr ⟨E5.out, E6.out, by omega⟩)⟩
                    case measure => simp [intOf]; omega
                  · have hR : Hid (upw l U m x.nm = (P1, P2)) := Lib.hid (by rw [← HUQ.out, HUP.out, if_neg hd])
                    have hdb : decide (-2 < D) = false := by simpa using hd
                    go_wp2_with fail
                    go_roundw
                    case rel => exact ⟨m, um, -1, -1, rfl, rfl, hmL, HUM, B4, V4, Lib.hid (.inl ⟨rfl, rfl, hR.out⟩)⟩
                    case measure => simp [intOf]; omega
              · have hP : Hid ((-1, -1) = (P1, P2)) := Lib.hid (by
                  rw [← hup, upw, dif_neg]
                  intro h
                  have e : U.getD ch (-1) = u := by rw [List.getD_eq_getElem?_getD, HUC.out]; rfl
                  omega)
                obtain ⟨rfl, rfl⟩ : P1 = -1 ∧ P2 = -1 := by have := hP.out; simp at this; omega
                have hub : decide (0 ≤ u) = false := by simpa using hu
                clear hup HC
                go_wp2_with fail
                go_meet
                exact ⟨HB, HV⟩
            · have hnb : decide (n1 < 0) = false := by simpa using hn0
              clear HC
              by_cases hu : 0 ≤ u
              all_goals
                go_wp2_with fail
                go_meet
                exact ⟨HB, HV⟩
        · have h4b : (K == 4) = false := by simpa using h4
          have HP4 : Hid ((-1, -1) = (P1, P2)) := Lib.hid (by have := HP.out; rwa [if_neg (fun h => h4 (HK.out.symm.trans h))] at this)
          obtain ⟨rfl, rfl⟩ : P1 = -1 ∧ P2 = -1 := by have := HP4.out; simp at this; omega
          go_wp2_with fail
          go_meet
          exact ⟨B3, V3⟩
      case rest =>
        obtain ⟨HB, HV⟩ := hcut
        have Q9 := Lib.hid (HQ.out.next HB.out)
        have v0 := (Blk_cell HV.out 0).trans rfl
        have v1 := (Blk_cell HV.out 1).trans rfl
        have HTK : Hid ((bds l U).take (q + 1) = (bds l U).take q ++ [(P1, P2)]) := Lib.hid (take_snoc _ _ _ HBD.out)
        clear x0 e0 c2
        go_wp2_with (at_builtin; refine wpList_append_own _ rfl _ _ 56 rfl (w.heap.size + 1) 60 j0 (.agg #[.int .i64 0, .int .i64 0]) 2 16 Tryd.underlying56 hj0 hy0 hy1 hy2 rfl (by decide) _ q _ rfl (Q9.out.r.alloc _) ⟨wc.heap.size, 0, none⟩ 1 1 [.int .i64 P1, .int .i64 P2] rfl rfl (new2 wc 60 _ _) (fun u hu => by simp at hu; rcases hu with rfl | rfl <;> rfl) (by unfold maxLen; omega) (by omega) (by have := Q9.out.size; simp; omega) ?_; intro v6 w11 hown6 hgrow6 _; obtain ⟨g6, c6, rfl⟩ := ownsRow_succ hown6; have HS6 := Lib.hid (Q9.out.push (p := (P1, P2)) hown6 hgrow6); clear hown6 hgrow6)
        rw [← HTK.out] at HS6
        go_roundw
        case rel => exact ⟨q + 1, _, _, rfl, by go_num, by omega, HS6⟩
        case measure => simp [intOf]; omega
    · obtain rfl : q = L := by omega
      go_wp2
      go_ret
      have h := HQ.out.r
      rw [List.take_of_length_le (by rw [bds_len, HL.out]; exact Nat.le_refl _)] at h
      exact ⟨g, k, U, by rw [HL.out]; rfl, HU.out, RowB.of (.inr rfl) h, HQ.out.low⟩
end Go.Proofs.YteikpeaakmbihaaDoor.T
