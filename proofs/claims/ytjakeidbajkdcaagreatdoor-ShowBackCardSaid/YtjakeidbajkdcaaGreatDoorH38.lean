/- Joined by program. -/
import Derived.Test.YtjakeidbajkdcaaGreatDoorH25
import Derived.Test.YtjakeidbajkdcaaGreatDoorH37
import Derived.Test.YtjakeidbajkdcaaGreatDoorH07
import Derived.Test.YtjakeidbajkdcaaGreatDoorH04
import Derived.Test.YtjakeidbajkdcaaGreatDoorH29
import Derived.Test.YtjakeidbajkdcaaGreatDoorH16
import Derived.Test.YtjakeidbajkdcaaGreatDoorH23
import Derived.Test.YtjakeidbajkdcaaGreatDoorH10
import Derived.Test.YtjakeidbajkdcaaGreatDoorH26
import Derived.Test.YtjakeidbajkdcaaGreatDoorH13
import Derived.Laws.EntriesVeiled
import Derived.IntWalk
import Derived.Deep.Cut
set_option maxRecDepth 100000
set_option maxHeartbeats 16000000
namespace Go.Proofs.YtjakeidbajkdcaaGreatDoor.S
open T Go.RowKit Go.Shelf
theorem step_str {ops : Array Oper} {o : Oper} {a : Act} {K : Act -> World -> Prop} {Q : Exit -> Act -> World -> Prop} {E : Prop} (w : World) (B : Nat) (hgd : o.guard = none) (s x : Operand)
    (ho : o.op = .call { callee := .builtin .append, args := #[s, x], argTypes := #[73, 73] }) (v : Value) (n : Nat) (xs : List Value) (hs : a.eval s = v) (hown : w.ownsRow B 9 1 v n xs)
    (g c : Nat) (t : ByteArray) (hx : a.eval x = .slice (some ⟨g, 0, none⟩) 1 c) (hc : w.heap[g]? = some (.cells #[.string t] 9 (0, 0))) (hn : n <= 100000) (hB : B <= w.heap.size)
    (h : ∀ v' w', w'.ownsRow B 9 1 v' (n + 1) (xs ++ [.string t]) -> w.grownBy w' v.ownBlock -> K (a.put o.dst v') w') : if Region.wanted o (yielded ops a.tmps) = true then Oper.wp Tryz.prog o a w K Q else E := by
  obtain ⟨i0, hi, hz0, hz1, hz2⟩ := info_parts strInfo
  refine A.step_append_place w hgd s x 73 ho B 9 i0 (.string ⟨#[]⟩) 1 16 Tryz.underlying73 hi hz0 hz1 hz2 rfl (by decide) v n xs hs hown ⟨g, 0, none⟩ 1 c [.string t] hx rfl (fun j u hj => ?_) (fun u hu => by rw [List.mem_singleton.1 hu]; rfl) (by unfold maxLen; omega) (by omega) hB fun v' w' h1 h2 _ => h v' w' h1 h2
  rw [Addr.add_lit, Nat.zero_add]
  refine (Blk_cell hc j).trans ?_
  simpa using hj
open T Go.RowKit Go.Shelf
theorem parts_is (fs : List Fld) (FA : Option Addr) (fc N p1 p5 : Nat) (w : World) (ch : Int -> Int -> ByteArray) (hN : fs.length = N) (h30 : N <= 30) (hF : Flds w.heap.size w (.slice FA N fc) fs) (hsz : ∀ f ∈ fs, f.nm.size <= 20 /\ f.vr.size <= 20 /\ (ch f.pl 0).size <= 1000000000)
    (HC : Hid (∀ f ∈ fs, ∀ W, Below w.heap.size w W -> Calls Tryz.prog 36 #[.int .i64 f.pl, .int .i64 0, .pointer (some ⟨p1, 0, none⟩), .pointer (some ⟨p5, 0, none⟩)] W (SPost (ch f.pl 0) W))) (hj : (joinB [44, 32] (fs.map (partT ch))).size <= 140737488355328) :
    Calls Tryz.prog 68 #[.slice FA N fc, .func (.func 36) #[] #[.pointer (some ⟨p1, 0, none⟩), .pointer (some ⟨p5, 0, none⟩)]] w (SPost (joinB [44, 32] (fs.map (partT ch))) w) := by
  have HFF : Hid (0 < N -> ∃ g o, FA = some ⟨g, o, none⟩ /\ g < w.heap.size /\ FldsAt w g o fs) := Lib.hid (by
    obtain ⟨A, c, e, _, _, h3⟩ := hF
    simp only [Value.slice.injEq] at e
    obtain ⟨rfl, e2, _⟩ := e
    rw [hN] at h3; exact h3)
  have HN := Lib.hid hN
  have HZ := Lib.hid hsz
  have HJ := Lib.hid hj
  clear hF hN hsz hj
  go_enter Tryz.func68, Tryz.ntmps68
  go_wp2
  go_loopw [5, 10] (fun v i wr => ∃ (vv : Value) (q : Nat), vv = v /\ i = .int .i64 (q : Int) /\ q <= N /\ Hid (wr.ownsRow w.heap.size 9 1 v q ((fs.take q).map fun f => Value.string (partT ch f))) /\ Hid (Below w.heap.size w wr)) (fun _ i _ => N - (intOf i).toNat)
  case atStart => exact ⟨_, 0, rfl, rfl, Nat.zero_le _, Lib.hid (World.ownsRow_nil _ _ _ _), Lib.hid (Below.refl _ _)⟩
  case round =>
    obtain ⟨vv, q, hvv, rfl, hq, HR, HB⟩ := hrel
    subst hvv
    have hwz := HB.out.size
    by_cases hlt : q < N
    · obtain ⟨fb, fo, rfl, hfb, hf0⟩ := HFF.out (by omega)
      obtain ⟨fd, hfd⟩ : ∃ fd, fs[q]? = some fd := ⟨_, List.getElem?_eq_getElem (by rw [HN.out]; exact hlt)⟩
      obtain ⟨m0, m1, m2⟩ := hf0 q fd hfd
      have lo : ∀ k, wr.cell? ⟨fb, k, none⟩ = w.cell? ⟨fb, k, none⟩ := fun k => HB.out.cell (p := ⟨fb, k, none⟩) hfb
      rw [<- lo] at m0 m1 m2
      obtain ⟨hs1, hs2, hs3⟩ := HZ.out fd (List.mem_of_getElem? hfd)
      have HCF := Lib.hid (HC.out fd (List.mem_of_getElem? hfd))
      have HTK : Hid ((fs.take (q + 1)).map (fun f => Value.string (partT ch f)) = (fs.take q).map (fun f => Value.string (partT ch f)) ++ [.string (partT ch fd)]) := Lib.hid (by rw [List.take_add_one, hfd, List.map_append]; rfl)
      obtain ⟨tc, htc⟩ : ∃ tc, ch fd.pl 0 = tc := ⟨_, rfl⟩
      have HTT : Hid (partT ch fd = ((fd.nm ++ ⟨#[32, 61, 32]⟩) ++ tc)) := Lib.hid (by unfold partT; rw [htc])
      rw [htc] at hs3 HCF
      clear htc lo hf0 hfd
      have z0 : ∀ W : World, (Op.stringOp .add fd.nm ⟨#[32, 61, 32]⟩).run Tryz.prog W = .ok (.string (fd.nm ++ ⟨#[32, 61, 32]⟩)) W := fun W => run_string_add_sum W _ _ (Nat.le_trans (Nat.add_le_add hs1 (Nat.le_refl 3)) (by decide))
      have z1 : ∀ W : World, (Op.stringOp .add (fd.nm ++ ⟨#[32, 61, 32]⟩) tc).run Tryz.prog W = .ok (.string ((fd.nm ++ ⟨#[32, 61, 32]⟩) ++ tc)) W := fun W => run_string_add_sum W _ _ (Nat.le_trans (Nat.add_le_add (cat_le hs1 (Nat.le_refl 3)) hs3) (by decide))
      clear hs1 hs2 hs3
      have HX := Lib.hid (HB.out.alloc HB.out.size (.cells #[.string fd.nm, .string fd.vr, .int .i64 fd.pl] 97))
      have HNF := Lib.hid (World.alloc_heap_new wr (.cells #[.string fd.nm, .string fd.vr, .int .i64 fd.pl] 97))
      have HR0 := Lib.hid (HR.out.alloc (.cells #[.string fd.nm, .string fd.vr, .int .i64 fd.pl] 97))
      go_wp2
      have HD := Lib.hid HX.out.drew
      have HNFD : Hid ((wr.alloc (.cells #[.string fd.nm, .string fd.vr, .int .i64 fd.pl] 97)).drew.heap[wr.heap.size]? = some (.cells #[.string fd.nm, .string fd.vr, .int .i64 fd.pl] 97 (0, 0))) := HNF
      have y0 : ((wr.alloc (.cells #[.string fd.nm, .string fd.vr, .int .i64 fd.pl] 97)).drew).cell? ⟨wr.heap.size, 0, none⟩ = some (.string fd.nm) := Blk_cell HNFD.out 0
      have y2 : ((wr.alloc (.cells #[.string fd.nm, .string fd.vr, .int .i64 fd.pl] 97)).drew).cell? ⟨wr.heap.size, 2, none⟩ = some (.int .i64 fd.pl) := Blk_cell HNFD.out 2
      go_region_held3 (fun W => W.cell? ⟨wr.heap.size, 0, none⟩ = some (.string fd.nm) /\ W.cell? ⟨wr.heap.size, 2, none⟩ = some (.int .i64 fd.pl)) (first | with_reducible exact ⟨y0, y2⟩ | with_reducible exact ⟨u0, u2⟩ | with_reducible exact ⟨t0, t2⟩ | with_reducible exact ⟨v0, v2⟩) (first | (go_at_call 36; (with_reducible refine (HCF.out _ HD.out).mono ?_); rintro e w1 ⟨rfl, hb⟩; have H1 := Lib.hid (HD.out.trans (hb.mono HD.out.size)); have hsz1 := H1.out.size; have HR1 := Lib.hid (HR0.out.drew.kept (row := none) (grown_belowT hb none) (by cases hv : vv.ownBlock <;> simp)); have HR2 := Lib.hid (HR1.out.alloc (.cells #[.string ((fd.nm ++ ⟨#[32, 61, 32]⟩) ++ tc)] 9)); have HNE : Hid (vv.ownBlock ≠ some wr.heap.size) := Lib.hid (fun e => by have := (HR.out.lt _ e).2; omega); have g := (hb.block wr.heap.size (Array.getElem?_eq_some_iff.1 HNF.out).1).trans HNF.out; have u0 : w1.cell? ⟨wr.heap.size, 0, none⟩ = some (.string fd.nm) := Blk_cell g 0; have u2 : w1.cell? ⟨wr.heap.size, 2, none⟩ = some (.int .i64 fd.pl) := Blk_cell g 2; have gg := (((Below.refl w1.heap.size w1).alloc (Nat.le_refl _) (.cells #[.string ((fd.nm ++ ⟨#[32, 61, 32]⟩) ++ tc)] 9)).block wr.heap.size (Array.getElem?_eq_some_iff.1 g).1).trans g; have t0 : (w1.alloc (.cells #[.string ((fd.nm ++ ⟨#[32, 61, 32]⟩) ++ tc)] 9)).cell? ⟨wr.heap.size, 0, none⟩ = some (.string fd.nm) := Blk_cell gg 0; have t2 : (w1.alloc (.cells #[.string ((fd.nm ++ ⟨#[32, 61, 32]⟩) ++ tc)] 9)).cell? ⟨wr.heap.size, 2, none⟩ = some (.int .i64 fd.pl) := Blk_cell gg 2; have G1 := Lib.hid g; clear hb g gg) | (have hq1 := HR2.out; refine step_str _ w.heap.size rfl (.tmp 14) (.tmp 23) rfl vv q _ rfl hq1 w1.heap.size 1 ((fd.nm ++ ⟨#[32, 61, 32]⟩) ++ tc) rfl (World.alloc_heap_new w1 _) (by omega) (by simp; omega) ?_; intro v2 w2 hown hgrow; have HO := Lib.hid hown; clear hq1; have H2 := Lib.hid (H1.out.trans (((Below.refl w.heap.size w1).alloc H1.out.size _).grown hgrow (by simp; have := H1.out.size; omega) (fun k hk => (HR2.out.lt k hk).1))); have g := (hgrow.block wr.heap.size (by have := (Array.getElem?_eq_some_iff.1 G1.out).1; simp; omega) (fun e => HNE.out e.symm)).trans ((((Below.refl w1.heap.size w1).alloc (Nat.le_refl _) _).block wr.heap.size (Array.getElem?_eq_some_iff.1 G1.out).1).trans G1.out); have v0 : w2.cell? ⟨wr.heap.size, 0, none⟩ = some (.string fd.nm) := Blk_cell g 0; have v2 : w2.cell? ⟨wr.heap.size, 2, none⟩ = some (.int .i64 fd.pl) := Blk_cell g 2; clear hown hgrow g))
      all_goals
        go_wp2
        go_roundw
        case rel => exact ⟨_, q + 1, rfl, by go_num, by omega, Lib.hid (by rw [HTK.out, HTT.out]; exact HO.out), H2⟩
        case measure => simp [intOf]; omega
    · obtain rfl : q = N := by omega
      have hrow := HR.out
      rw [List.take_of_length_le (by rw [HN.out]; exact Nat.le_refl _)] at hrow
      by_cases h0 : q = 0
      · subst h0
        have he : fs = [] := List.eq_nil_of_length_eq_zero HN.out
        subst he
        rcases hrow.2 with ⟨rfl, _⟩ | ⟨g, cap, cur, rfl, _⟩
        · have HJN := Lib.hid (Tryz.strings_Join_none none 0 ⟨#[44, 32]⟩)
          go_wp2_with (go_at_call 111; refine (HJN.out _).mono ?_; rintro e w1 ⟨rfl, rfl⟩)
          go_ret
          exact ⟨rfl, HB.out⟩
        · have HJN := Lib.hid (Tryz.strings_Join_none (some ⟨g, 0, none⟩) cap ⟨#[44, 32]⟩)
          go_wp2_with (go_at_call 111; refine (HJN.out _).mono ?_; rintro e w1 ⟨rfl, rfl⟩)
          go_ret
          exact ⟨rfl, HB.out⟩
      · rcases hrow.2 with ⟨_, e0⟩ | ⟨g, cap, cur, rfl, hbg, hh, hnc, hcm, _⟩
        · exact absurd e0 h0
        have hcells : ∀ (j : Nat) x, (fs.map (partT ch))[j]? = some x -> wr.cell? ⟨g, 0 + j, none⟩ = some (.string x) := fun j x hx => by
          have := World.ownsRow.cells hrow (g := g) rfl j (.string x) (by rw [List.getElem?_map] at hx ⊢; obtain ⟨f, hf, rfl⟩ := Option.map_eq_some_iff.1 hx; rw [hf]; rfl)
          rwa [Addr.add_lit] at this
        obtain ⟨J, hJ⟩ : ∃ J, joinB [44, 32] (fs.map (partT ch)) = J := ⟨_, rfl⟩
        have hjn := Tryz.strings_Join g 0 cap (fs.map (partT ch)) ⟨#[44, 32]⟩ wr hcells (Array.getElem?_eq_some_iff.1 hh).1 (by rw [List.length_map, HN.out]; omega) (by rw [List.length_map, HN.out]; exact hnc) (by have := HJ.out; unfold joinB at this; simpa [ByteArray.size] using this)
        rw [List.length_map, HN.out] at hjn
        have HJN : Hid (Calls Tryz.prog 111 #[.slice (some ⟨g, 0, none⟩) q cap, .string ⟨#[44, 32]⟩] wr fun e w' => e = .returned (.string J) /\ Below wr.heap.size wr w') := Lib.hid (by rw [<- hJ]; exact hjn)
        have HJJ := Lib.hid hJ
        clear hJ hjn
        clear hcells hrow
        go_wp2_with (go_at_call 111; refine HJN.out.mono ?_; rintro e w1 ⟨rfl, hb⟩; have H1 := Lib.hid (HB.out.trans (hb.mono HB.out.size)); clear hb)
        go_ret
        exact ⟨by rw [HJJ.out]; rfl, H1.out⟩
open T Go.RowKit Go.Shelf
theorem brs_is (fs : List Fld) (FA : Option Addr) (fc N p1 p5 : Nat) (w : World) (ch : Int -> Int -> ByteArray) (hN : fs.length = N) (h30 : N <= 30) (hF : Flds w.heap.size w (.slice FA N fc) fs) (hsz : ∀ f ∈ fs, f.nm.size <= 20 /\ f.vr.size <= 20 /\ (ch f.pl 0).size <= 1000000000)
    (HC : Hid (∀ f ∈ fs, ∀ W, Below w.heap.size w W -> Calls Tryz.prog 36 #[.int .i64 f.pl, .int .i64 0, .pointer (some ⟨p1, 0, none⟩), .pointer (some ⟨p5, 0, none⟩)] W (SPost (ch f.pl 0) W))) (hj : (joinB [32, 124, 32] (fs.map (brT ch))).size <= 140737488355328) :
    Calls Tryz.prog 69 #[.slice FA N fc, .func (.func 36) #[] #[.pointer (some ⟨p1, 0, none⟩), .pointer (some ⟨p5, 0, none⟩)]] w (SPost (joinB [32, 124, 32] (fs.map (brT ch))) w) := by
  have HFF : Hid (0 < N -> ∃ g o, FA = some ⟨g, o, none⟩ /\ g < w.heap.size /\ FldsAt w g o fs) := Lib.hid (by
    obtain ⟨A, c, e, _, _, h3⟩ := hF
    simp only [Value.slice.injEq] at e
    obtain ⟨rfl, e2, _⟩ := e
    rw [hN] at h3; exact h3)
  have HN := Lib.hid hN
  have HZ := Lib.hid hsz
  have HJ := Lib.hid hj
  clear hF hN hsz hj
  go_enter Tryz.func69, Tryz.ntmps69
  go_wp2
  go_loopw [5, 10] (fun v i wr => ∃ (vv : Value) (q : Nat), vv = v /\ i = .int .i64 (q : Int) /\ q <= N /\ Hid (wr.ownsRow w.heap.size 9 1 v q ((fs.take q).map fun f => Value.string (brT ch f))) /\ Hid (Below w.heap.size w wr)) (fun _ i _ => N - (intOf i).toNat)
  case atStart => exact ⟨_, 0, rfl, rfl, Nat.zero_le _, Lib.hid (World.ownsRow_nil _ _ _ _), Lib.hid (Below.refl _ _)⟩
  case round =>
    obtain ⟨vv, q, hvv, rfl, hq, HR, HB⟩ := hrel
    subst hvv
    have hwz := HB.out.size
    by_cases hlt : q < N
    · obtain ⟨fb, fo, rfl, hfb, hf0⟩ := HFF.out (by omega)
      obtain ⟨fd, hfd⟩ : ∃ fd, fs[q]? = some fd := ⟨_, List.getElem?_eq_getElem (by rw [HN.out]; exact hlt)⟩
      obtain ⟨m0, m1, m2⟩ := hf0 q fd hfd
      have lo : ∀ k, wr.cell? ⟨fb, k, none⟩ = w.cell? ⟨fb, k, none⟩ := fun k => HB.out.cell (p := ⟨fb, k, none⟩) hfb
      rw [<- lo] at m0 m1 m2
      obtain ⟨hs1, hs2, hs3⟩ := HZ.out fd (List.mem_of_getElem? hfd)
      have HCF := Lib.hid (HC.out fd (List.mem_of_getElem? hfd))
      have HTK : Hid ((fs.take (q + 1)).map (fun f => Value.string (brT ch f)) = (fs.take q).map (fun f => Value.string (brT ch f)) ++ [.string (brT ch fd)]) := Lib.hid (by rw [List.take_add_one, hfd, List.map_append]; rfl)
      obtain ⟨tc, htc⟩ : ∃ tc, ch fd.pl 0 = tc := ⟨_, rfl⟩
      have HTT : Hid (brT ch fd = ((((fd.nm ++ ⟨#[32]⟩) ++ fd.vr) ++ ⟨#[32, 45, 62, 32]⟩) ++ tc)) := Lib.hid (by unfold brT; rw [htc])
      rw [htc] at hs3 HCF
      clear htc lo hf0 hfd
      have z0 : ∀ W : World, (Op.stringOp .add fd.nm ⟨#[32]⟩).run Tryz.prog W = .ok (.string (fd.nm ++ ⟨#[32]⟩)) W := fun W => run_string_add_sum W _ _ (Nat.le_trans (Nat.add_le_add hs1 (Nat.le_refl 1)) (by decide))
      have z1 : ∀ W : World, (Op.stringOp .add (fd.nm ++ ⟨#[32]⟩) fd.vr).run Tryz.prog W = .ok (.string ((fd.nm ++ ⟨#[32]⟩) ++ fd.vr)) W := fun W => run_string_add_sum W _ _ (Nat.le_trans (Nat.add_le_add (cat_le hs1 (Nat.le_refl 1)) hs2) (by decide))
      have z2 : ∀ W : World, (Op.stringOp .add ((fd.nm ++ ⟨#[32]⟩) ++ fd.vr) ⟨#[32, 45, 62, 32]⟩).run Tryz.prog W = .ok (.string (((fd.nm ++ ⟨#[32]⟩) ++ fd.vr) ++ ⟨#[32, 45, 62, 32]⟩)) W := fun W => run_string_add_sum W _ _ (Nat.le_trans (Nat.add_le_add (cat_le (cat_le hs1 (Nat.le_refl 1)) hs2) (Nat.le_refl 4)) (by decide))
      have z3 : ∀ W : World, (Op.stringOp .add (((fd.nm ++ ⟨#[32]⟩) ++ fd.vr) ++ ⟨#[32, 45, 62, 32]⟩) tc).run Tryz.prog W = .ok (.string ((((fd.nm ++ ⟨#[32]⟩) ++ fd.vr) ++ ⟨#[32, 45, 62, 32]⟩) ++ tc)) W := fun W => run_string_add_sum W _ _ (Nat.le_trans (Nat.add_le_add (cat_le (cat_le (cat_le hs1 (Nat.le_refl 1)) hs2) (Nat.le_refl 4)) hs3) (by decide))
      clear hs1 hs2 hs3
      have HX := Lib.hid (HB.out.alloc HB.out.size (.cells #[.string fd.nm, .string fd.vr, .int .i64 fd.pl] 97))
      have HNF := Lib.hid (World.alloc_heap_new wr (.cells #[.string fd.nm, .string fd.vr, .int .i64 fd.pl] 97))
      have HR0 := Lib.hid (HR.out.alloc (.cells #[.string fd.nm, .string fd.vr, .int .i64 fd.pl] 97))
      go_wp2
      have HD := Lib.hid HX.out.drew
      have HNFD : Hid ((wr.alloc (.cells #[.string fd.nm, .string fd.vr, .int .i64 fd.pl] 97)).drew.heap[wr.heap.size]? = some (.cells #[.string fd.nm, .string fd.vr, .int .i64 fd.pl] 97 (0, 0))) := HNF
      have y0 : ((wr.alloc (.cells #[.string fd.nm, .string fd.vr, .int .i64 fd.pl] 97)).drew).cell? ⟨wr.heap.size, 0, none⟩ = some (.string fd.nm) := Blk_cell HNFD.out 0
      have y1 : ((wr.alloc (.cells #[.string fd.nm, .string fd.vr, .int .i64 fd.pl] 97)).drew).cell? ⟨wr.heap.size, 1, none⟩ = some (.string fd.vr) := Blk_cell HNFD.out 1
      have y2 : ((wr.alloc (.cells #[.string fd.nm, .string fd.vr, .int .i64 fd.pl] 97)).drew).cell? ⟨wr.heap.size, 2, none⟩ = some (.int .i64 fd.pl) := Blk_cell HNFD.out 2
      go_region_held3 (fun W => W.cell? ⟨wr.heap.size, 0, none⟩ = some (.string fd.nm) /\ W.cell? ⟨wr.heap.size, 1, none⟩ = some (.string fd.vr) /\ W.cell? ⟨wr.heap.size, 2, none⟩ = some (.int .i64 fd.pl)) (first | with_reducible exact ⟨y0, y1, y2⟩ | with_reducible exact ⟨u0, u1, u2⟩ | with_reducible exact ⟨t0, t1, t2⟩ | with_reducible exact ⟨v0, v1, v2⟩) (first | (go_at_call 36; (with_reducible refine (HCF.out _ HD.out).mono ?_); rintro e w1 ⟨rfl, hb⟩; have H1 := Lib.hid (HD.out.trans (hb.mono HD.out.size)); have hsz1 := H1.out.size; have HR1 := Lib.hid (HR0.out.drew.kept (row := none) (grown_belowT hb none) (by cases hv : vv.ownBlock <;> simp)); have HR2 := Lib.hid (HR1.out.alloc (.cells #[.string ((((fd.nm ++ ⟨#[32]⟩) ++ fd.vr) ++ ⟨#[32, 45, 62, 32]⟩) ++ tc)] 9)); have HNE : Hid (vv.ownBlock ≠ some wr.heap.size) := Lib.hid (fun e => by have := (HR.out.lt _ e).2; omega); have g := (hb.block wr.heap.size (Array.getElem?_eq_some_iff.1 HNF.out).1).trans HNF.out; have u0 : w1.cell? ⟨wr.heap.size, 0, none⟩ = some (.string fd.nm) := Blk_cell g 0; have u1 : w1.cell? ⟨wr.heap.size, 1, none⟩ = some (.string fd.vr) := Blk_cell g 1; have u2 : w1.cell? ⟨wr.heap.size, 2, none⟩ = some (.int .i64 fd.pl) := Blk_cell g 2; have gg := (((Below.refl w1.heap.size w1).alloc (Nat.le_refl _) (.cells #[.string ((((fd.nm ++ ⟨#[32]⟩) ++ fd.vr) ++ ⟨#[32, 45, 62, 32]⟩) ++ tc)] 9)).block wr.heap.size (Array.getElem?_eq_some_iff.1 g).1).trans g; have t0 : (w1.alloc (.cells #[.string ((((fd.nm ++ ⟨#[32]⟩) ++ fd.vr) ++ ⟨#[32, 45, 62, 32]⟩) ++ tc)] 9)).cell? ⟨wr.heap.size, 0, none⟩ = some (.string fd.nm) := Blk_cell gg 0; have t1 : (w1.alloc (.cells #[.string ((((fd.nm ++ ⟨#[32]⟩) ++ fd.vr) ++ ⟨#[32, 45, 62, 32]⟩) ++ tc)] 9)).cell? ⟨wr.heap.size, 1, none⟩ = some (.string fd.vr) := Blk_cell gg 1; have t2 : (w1.alloc (.cells #[.string ((((fd.nm ++ ⟨#[32]⟩) ++ fd.vr) ++ ⟨#[32, 45, 62, 32]⟩) ++ tc)] 9)).cell? ⟨wr.heap.size, 2, none⟩ = some (.int .i64 fd.pl) := Blk_cell gg 2; have G1 := Lib.hid g; clear hb g gg) | (have hq1 := HR2.out; refine step_str _ w.heap.size rfl (.tmp 14) (.tmp 27) rfl vv q _ rfl hq1 w1.heap.size 1 ((((fd.nm ++ ⟨#[32]⟩) ++ fd.vr) ++ ⟨#[32, 45, 62, 32]⟩) ++ tc) rfl (World.alloc_heap_new w1 _) (by omega) (by simp; omega) ?_; intro v2 w2 hown hgrow; have HO := Lib.hid hown; clear hq1; have H2 := Lib.hid (H1.out.trans (((Below.refl w.heap.size w1).alloc H1.out.size _).grown hgrow (by simp; have := H1.out.size; omega) (fun k hk => (HR2.out.lt k hk).1))); have g := (hgrow.block wr.heap.size (by have := (Array.getElem?_eq_some_iff.1 G1.out).1; simp; omega) (fun e => HNE.out e.symm)).trans ((((Below.refl w1.heap.size w1).alloc (Nat.le_refl _) _).block wr.heap.size (Array.getElem?_eq_some_iff.1 G1.out).1).trans G1.out); have v0 : w2.cell? ⟨wr.heap.size, 0, none⟩ = some (.string fd.nm) := Blk_cell g 0; have v1 : w2.cell? ⟨wr.heap.size, 1, none⟩ = some (.string fd.vr) := Blk_cell g 1; have v2 : w2.cell? ⟨wr.heap.size, 2, none⟩ = some (.int .i64 fd.pl) := Blk_cell g 2; clear hown hgrow g))
      all_goals
        go_wp2
        go_roundw
        case rel => exact ⟨_, q + 1, rfl, by go_num, by omega, Lib.hid (by rw [HTK.out, HTT.out]; exact HO.out), H2⟩
        case measure => simp [intOf]; omega
    · obtain rfl : q = N := by omega
      have hrow := HR.out
      rw [List.take_of_length_le (by rw [HN.out]; exact Nat.le_refl _)] at hrow
      by_cases h0 : q = 0
      · subst h0
        have he : fs = [] := List.eq_nil_of_length_eq_zero HN.out
        subst he
        rcases hrow.2 with ⟨rfl, _⟩ | ⟨g, cap, cur, rfl, _⟩
        · have HJN := Lib.hid (Tryz.strings_Join_none none 0 ⟨#[32, 124, 32]⟩)
          go_wp2_with (go_at_call 111; refine (HJN.out _).mono ?_; rintro e w1 ⟨rfl, rfl⟩)
          go_ret
          exact ⟨rfl, HB.out⟩
        · have HJN := Lib.hid (Tryz.strings_Join_none (some ⟨g, 0, none⟩) cap ⟨#[32, 124, 32]⟩)
          go_wp2_with (go_at_call 111; refine (HJN.out _).mono ?_; rintro e w1 ⟨rfl, rfl⟩)
          go_ret
          exact ⟨rfl, HB.out⟩
      · rcases hrow.2 with ⟨_, e0⟩ | ⟨g, cap, cur, rfl, hbg, hh, hnc, hcm, _⟩
        · exact absurd e0 h0
        have hcells : ∀ (j : Nat) x, (fs.map (brT ch))[j]? = some x -> wr.cell? ⟨g, 0 + j, none⟩ = some (.string x) := fun j x hx => by
          have := World.ownsRow.cells hrow (g := g) rfl j (.string x) (by rw [List.getElem?_map] at hx ⊢; obtain ⟨f, hf, rfl⟩ := Option.map_eq_some_iff.1 hx; rw [hf]; rfl)
          rwa [Addr.add_lit] at this
        obtain ⟨J, hJ⟩ : ∃ J, joinB [32, 124, 32] (fs.map (brT ch)) = J := ⟨_, rfl⟩
        have hjn := Tryz.strings_Join g 0 cap (fs.map (brT ch)) ⟨#[32, 124, 32]⟩ wr hcells (Array.getElem?_eq_some_iff.1 hh).1 (by rw [List.length_map, HN.out]; omega) (by rw [List.length_map, HN.out]; exact hnc) (by have := HJ.out; unfold joinB at this; simpa [ByteArray.size] using this)
        rw [List.length_map, HN.out] at hjn
        have HJN : Hid (Calls Tryz.prog 111 #[.slice (some ⟨g, 0, none⟩) q cap, .string ⟨#[32, 124, 32]⟩] wr fun e w' => e = .returned (.string J) /\ Below wr.heap.size wr w') := Lib.hid (by rw [<- hJ]; exact hjn)
        have HJJ := Lib.hid hJ
        clear hJ hjn
        clear hcells hrow
        go_wp2_with (go_at_call 111; refine HJN.out.mono ?_; rintro e w1 ⟨rfl, hb⟩; have H1 := Lib.hid (HB.out.trans (hb.mono HB.out.size)); clear hb)
        go_ret
        exact ⟨by rw [HJJ.out]; rfl, H1.out⟩
open T Go.RowKit Go.Shelf
section
variable (a b c n pos : Int) (nm s : ByteArray) (v : Value) (p1 p5 : Nat) (w : World)
theorem text_10 (sa sb sg : ByteArray) (t f : Int) (ht : tight 10 n = t) (hf : fst1 n = f) (hg : sgn n = sg) (hgz : sg.size <= 2) (ha : sa.size <= 1000000000) (hb : sb.size <= 1000000000)
    (HA : Hid (∀ W, Below w.heap.size w W -> Calls Tryz.prog 36 #[.int .i64 a, .int .i64 f, .pointer (some ⟨p1, 0, none⟩), .pointer (some ⟨p5, 0, none⟩)] W (SPost sa W)))
    (HBB : Hid (∀ W, Below w.heap.size w W -> Calls Tryz.prog 36 #[.int .i64 b, .int .i64 (t + 1), .pointer (some ⟨p1, 0, none⟩), .pointer (some ⟨p5, 0, none⟩)] W (SPost sb W))) :
    Calls Tryz.prog 37 #[.agg #[.int .i64 10, .int .i64 a, .int .i64 b, .int .i64 c, .int .i64 n, .string nm, .string s, v, .int .i64 pos], .func (.func 36) #[] #[.pointer (some ⟨p1, 0, none⟩), .pointer (some ⟨p5, 0, none⟩)]] w (SPost ((((sa ++ ⟨#[32]⟩) ++ sg) ++ ⟨#[32]⟩) ++ sb) w) := by
  have hX : Below w.heap.size w (w.alloc (.cells #[.int .i64 10, .int .i64 a, .int .i64 b, .int .i64 c, .int .i64 n, .string nm, .string s, v, .int .i64 pos] 37)) := (Below.refl _ w).alloc (Nat.le_refl _) _
  have HX := Lib.hid hX
  have HP := Lib.hid (prim_is a b c n pos nm s v p1 p5 (w.alloc (.cells #[.int .i64 10, .int .i64 a, .int .i64 b, .int .i64 c, .int .i64 n, .string nm, .string s, v, .int .i64 pos] 37)) sa sb sg t f ht hf hg hgz ha hb (Lib.hid fun W hW => HA.out W (hX.trans (hW.mono hX.size))) (Lib.hid fun W hW => HBB.out W (hX.trans (hW.mono hX.size))))
  obtain ⟨R, hR⟩ : ∃ R, ((((sa ++ ⟨#[32]⟩) ++ sg) ++ ⟨#[32]⟩) ++ sb) = R := ⟨_, rfl⟩
  rw [hR] at HP ⊢
  clear hX HA HBB ht hf hg hgz ha hb hR
  go_enter Tryz.func37, Tryz.ntmps37
  go_wp2_with (go_at_call 67; refine HP.out.mono ?_; rintro e w1 ⟨rfl, hb1⟩; have H1 := Lib.hid (HX.out.trans (hb1.mono HX.out.size)); clear hb1)
  go_ret
  exact ⟨rfl, H1.out⟩
theorem text_11 (sp : ByteArray) (hp : sp.size <= 100000000000)
    (HP : Hid (∀ W, Below w.heap.size w W -> Calls Tryz.prog 68 #[v, .func (.func 36) #[] #[.pointer (some ⟨p1, 0, none⟩), .pointer (some ⟨p5, 0, none⟩)]] W (SPost sp W))) :
    Calls Tryz.prog 37 #[.agg #[.int .i64 11, .int .i64 a, .int .i64 b, .int .i64 c, .int .i64 n, .string nm, .string s, v, .int .i64 pos], .func (.func 36) #[] #[.pointer (some ⟨p1, 0, none⟩), .pointer (some ⟨p5, 0, none⟩)]] w (SPost ((⟨#[123]⟩ ++ sp) ++ ⟨#[125]⟩) w) := by
  have HX := Lib.hid ((Below.refl _ w).alloc (Nat.le_refl _) (.cells #[.int .i64 11, .int .i64 a, .int .i64 b, .int .i64 c, .int .i64 n, .string nm, .string s, v, .int .i64 pos] 37))
  have z0 : ∀ W : World, (Op.stringOp .add ⟨#[123]⟩ sp).run Tryz.prog W = .ok (.string (⟨#[123]⟩ ++ sp)) W := fun W => run_string_add_sum W _ _ (Nat.le_trans (Nat.add_le_add (Nat.le_refl 1) hp) (by decide))
  have z1 : ∀ W : World, (Op.stringOp .add (⟨#[123]⟩ ++ sp) ⟨#[125]⟩).run Tryz.prog W = .ok (.string ((⟨#[123]⟩ ++ sp) ++ ⟨#[125]⟩)) W := fun W => run_string_add_sum W _ _ (Nat.le_trans (Nat.add_le_add (cat_le (Nat.le_refl 1) hp) (Nat.le_refl 1)) (by decide))
  clear hp
  go_enter Tryz.func37, Tryz.ntmps37
  go_wp2_with (go_at_call 68; refine (HP.out _ HX.out).mono ?_; rintro e w1 ⟨rfl, hb1⟩; have H1 := Lib.hid (HX.out.trans (hb1.mono HX.out.size)); clear hb1)
  go_ret
  exact ⟨rfl, H1.out⟩
theorem text_14 (sa sp : ByteArray) (ha : sa.size <= 1000000000) (hp : sp.size <= 100000000000)
    (HA : Hid (∀ W, Below w.heap.size w W -> Calls Tryz.prog 36 #[.int .i64 a, .int .i64 0, .pointer (some ⟨p1, 0, none⟩), .pointer (some ⟨p5, 0, none⟩)] W (SPost sa W)))
    (HP : Hid (∀ W, Below w.heap.size w W -> Calls Tryz.prog 69 #[v, .func (.func 36) #[] #[.pointer (some ⟨p1, 0, none⟩), .pointer (some ⟨p5, 0, none⟩)]] W (SPost sp W))) :
    Calls Tryz.prog 37 #[.agg #[.int .i64 14, .int .i64 a, .int .i64 b, .int .i64 c, .int .i64 n, .string nm, .string s, v, .int .i64 pos], .func (.func 36) #[] #[.pointer (some ⟨p1, 0, none⟩), .pointer (some ⟨p5, 0, none⟩)]] w (SPost ((((⟨#[99, 97, 115, 101, 32]⟩ ++ sa) ++ ⟨#[32, 111, 102, 32]⟩) ++ sp) ++ ⟨#[32, 101, 110, 100]⟩) w) := by
  have HX := Lib.hid ((Below.refl _ w).alloc (Nat.le_refl _) (.cells #[.int .i64 14, .int .i64 a, .int .i64 b, .int .i64 c, .int .i64 n, .string nm, .string s, v, .int .i64 pos] 37))
  have HG := Lib.hid (World.alloc_heap_new w (.cells #[.int .i64 14, .int .i64 a, .int .i64 b, .int .i64 c, .int .i64 n, .string nm, .string s, v, .int .i64 pos] 37))
  have z0 : ∀ W : World, (Op.stringOp .add ⟨#[99, 97, 115, 101, 32]⟩ sa).run Tryz.prog W = .ok (.string (⟨#[99, 97, 115, 101, 32]⟩ ++ sa)) W := fun W => run_string_add_sum W _ _ (Nat.le_trans (Nat.add_le_add (Nat.le_refl 5) ha) (by decide))
  have z1 : ∀ W : World, (Op.stringOp .add (⟨#[99, 97, 115, 101, 32]⟩ ++ sa) ⟨#[32, 111, 102, 32]⟩).run Tryz.prog W = .ok (.string ((⟨#[99, 97, 115, 101, 32]⟩ ++ sa) ++ ⟨#[32, 111, 102, 32]⟩)) W := fun W => run_string_add_sum W _ _ (Nat.le_trans (Nat.add_le_add (cat_le (Nat.le_refl 5) ha) (Nat.le_refl 4)) (by decide))
  have z2 : ∀ W : World, (Op.stringOp .add ((⟨#[99, 97, 115, 101, 32]⟩ ++ sa) ++ ⟨#[32, 111, 102, 32]⟩) sp).run Tryz.prog W = .ok (.string (((⟨#[99, 97, 115, 101, 32]⟩ ++ sa) ++ ⟨#[32, 111, 102, 32]⟩) ++ sp)) W := fun W => run_string_add_sum W _ _ (Nat.le_trans (Nat.add_le_add (cat_le (cat_le (Nat.le_refl 5) ha) (Nat.le_refl 4)) hp) (by decide))
  have z3 : ∀ W : World, (Op.stringOp .add (((⟨#[99, 97, 115, 101, 32]⟩ ++ sa) ++ ⟨#[32, 111, 102, 32]⟩) ++ sp) ⟨#[32, 101, 110, 100]⟩).run Tryz.prog W = .ok (.string ((((⟨#[99, 97, 115, 101, 32]⟩ ++ sa) ++ ⟨#[32, 111, 102, 32]⟩) ++ sp) ++ ⟨#[32, 101, 110, 100]⟩)) W := fun W => run_string_add_sum W _ _ (Nat.le_trans (Nat.add_le_add (cat_le (cat_le (cat_le (Nat.le_refl 5) ha) (Nat.le_refl 4)) hp) (Nat.le_refl 4)) (by decide))
  clear ha hp
  go_enter Tryz.func37, Tryz.ntmps37
  go_wp2
  have HD := Lib.hid HX.out.drew
  have y1 := Blk_cell HG.out 1
  have y7 := Blk_cell HG.out 7
  go_region_held3 (fun W => W.cell? ⟨w.heap.size, 1, none⟩ = some (.int .i64 a) /\ W.cell? ⟨w.heap.size, 7, none⟩ = some v) (first | exact ⟨y1, y7⟩ | exact ⟨x1, x7⟩ | exact ⟨t1, t7⟩) (first | (go_at_call 69; (with_reducible refine (HP.out _ H1.out).mono ?_); rintro e w2 ⟨rfl, hb⟩; have H2 := Lib.hid (H1.out.trans (hb.mono H1.out.size)); have g := (hb.block w.heap.size (Array.getElem?_eq_some_iff.1 G1.out).1).trans G1.out; have t1 := Blk_cell g 1; have t7 := Blk_cell g 7; clear hb g) | (go_at_call 36; (with_reducible refine (HA.out _ HD.out).mono ?_); rintro e w1 ⟨rfl, hb⟩; have H1 := Lib.hid (HD.out.trans (hb.mono HD.out.size)); have g := (hb.block w.heap.size (Array.getElem?_eq_some_iff.1 HG.out).1).trans HG.out; have x1 := Blk_cell g 1; have x7 := Blk_cell g 7; have G1 := Lib.hid g; clear hb g))
  all_goals
    go_wp2
    go_ret
    exact ⟨rfl, H2.out⟩
end
theorem sgn_size (n : Int) : (sgn n).size <= 2 := by
  unfold sgn
  repeat' split
  all_goals decide
theorem flds_slice {W : World} {v : Value} {l : List Fld} (h : Flds W.heap.size W v l) : ∃ A c, v = .slice A l.length c := by
  obtain ⟨A, c, e, _⟩ := h
  exact ⟨A, c, e⟩
theorem text_any (x : Nd) (v : Value) (ho : Own x) (hn0 : -9223372036854775808 <= x.n) (hn1 : x.n <= 9223372036854775807) (p1 p5 : Nat) (W : World) (hO : L.On W.heap.size W) (hF : Flds W.heap.size W v x.l) (ch : Int -> Int -> ByteArray)
    (hch : ∀ k ∈ kids x, ∀ t, (ch k t).size <= 1000000000) (HC : ∀ k ∈ kids x, ∀ t W', Below W.heap.size W W' -> Calls Tryz.prog 36 #[.int .i64 k, .int .i64 t, .pointer (some ⟨p1, 0, none⟩), .pointer (some ⟨p5, 0, none⟩)] W' (SPost (ch k t) W')) :
    Calls Tryz.prog 37 #[.agg (ndArr x v), .func (.func 36) #[] #[.pointer (some ⟨p1, 0, none⟩), .pointer (some ⟨p5, 0, none⟩)]] W (SPost (body x ch) W) := by
  have hc : x.kind = 1 ∨ x.kind = 2 ∨ x.kind = 3 ∨ x.kind = 4 ∨ x.kind = 5 ∨ x.kind = 6 ∨ x.kind = 7 ∨ x.kind = 8 ∨ x.kind = 9 ∨ x.kind = 10 ∨ x.kind = 11 ∨ x.kind = 12 ∨ x.kind = 13 ∨ x.kind = 14 := by
    have := ho.k1; have := ho.k2; omega
  have hcp : x.kind = 11 ∨ x.kind = 14 -> ∀ f ∈ x.l, f.pl ∈ kids x := fun hk f hf => by
    unfold kids many
    rw [List.mem_append]
    refine .inr ?_
    rcases hk with e | e <;> simp [e] <;> exact ⟨f, hf, rfl⟩
  have hall : x.kind = 11 ∨ x.kind = 14 -> ∀ f ∈ x.l, f.nm.size <= 20 /\ f.vr.size <= 20 /\ (ch f.pl 0).size <= 1000000000 := fun hk f hf => ⟨(ho.f f hf).1, (ho.f f hf).2, hch _ (hcp hk f hf) 0⟩
  have hsum : ((x.l.map Fld.pl).map fun _ => 1000000000).sum <= 30000000000 := by
    have h1 : ((x.l.map Fld.pl).map fun _ : Int => 1000000000).sum = 1000000000 * x.l.length := by
      have hG : ∀ l : List Fld, ((l.map Fld.pl).map fun _ : Int => 1000000000).sum = 1000000000 * l.length := fun l => by
        induction l with
        | nil => rfl
        | cons f l ih => rw [List.map_cons, List.map_cons, List.sum_cons, ih, List.length_cons]; omega
      exact hG x.l
    have := ho.l
    omega
  have hpp : x.kind = 11 ∨ x.kind = 14 -> (joinB [44, 32] (x.l.map (partT ch))).size <= 100000000000 /\ (joinB [32, 124, 32] (x.l.map (brT ch))).size <= 100000000000 := fun hk => by
    have h1 := parts_size ho (ch := ch) (wt := fun _ => 1000000000) fun f hf => (hall hk f hf).2.2
    have h2 := brs_size ho (ch := ch) (wt := fun _ => 1000000000) fun f hf => (hall hk f hf).2.2
    omega
  obtain ⟨A, cp, rfl⟩ := flds_slice hF
  obtain ⟨k, a, b, c, n, nm, s, l, pos⟩ := x
  have hnm := ho.nm
  have hs := ho.s
  have hl := ho.l
  simp only [ndArr] at *
  rcases hc with rfl | rfl | rfl | rfl | rfl | rfl | rfl | rfl | rfl | rfl | rfl | rfl | rfl | rfl
  · rw [body_1 rfl]; exact text_1 a b c n pos nm s _ p1 p5 W hn0 hn1 hO
  · rw [body_2 rfl]; exact text_2 a b c n pos nm s _ p1 p5 W
  · rw [body_3 rfl]; exact text_3 a b c n pos nm s _ p1 p5 W (by omega)
  · rw [body_4 rfl]; exact text_4 a b c n pos nm s _ p1 p5 W
  · rw [body_5 rfl]; exact text_5 a b c n pos nm s _ p1 p5 W (ch a 0) hnm (hch a (by simp [kids, kids0]) 0) (Lib.hid (HC a (by simp [kids, kids0]) 0))
  · rw [body_6 rfl]; exact text_6 a b c n pos nm s _ p1 p5 W (ch a 5) (ch b 6) (hch a (by simp [kids, kids0]) 5) (Lib.hid (HC a (by simp [kids, kids0]) 5)) (hch b (by simp [kids, kids0]) 6) (Lib.hid (HC b (by simp [kids, kids0]) 6))
  · rw [body_7 rfl]; exact text_7 a b c n pos nm s _ p1 p5 W (ch a 0) (ch b 0) hnm (hch a (by simp [kids, kids0]) 0) (Lib.hid (HC a (by simp [kids, kids0]) 0)) (hch b (by simp [kids, kids0]) 0) (Lib.hid (HC b (by simp [kids, kids0]) 0))
  · rw [body_8 rfl]; exact text_8 a b c n pos nm s _ p1 p5 W (ch a 0) (ch b 0) hnm (hch a (by simp [kids, kids0]) 0) (Lib.hid (HC a (by simp [kids, kids0]) 0)) (hch b (by simp [kids, kids0]) 0) (Lib.hid (HC b (by simp [kids, kids0]) 0))
  · rw [body_9 rfl]; exact text_9 a b c n pos nm s _ p1 p5 W (ch a 0) (ch b 0) (ch c 0) hnm (hch a (by simp [kids, kids0]) 0) (Lib.hid (HC a (by simp [kids, kids0]) 0)) (hch b (by simp [kids, kids0]) 0) (Lib.hid (HC b (by simp [kids, kids0]) 0)) (hch c (by simp [kids, kids0]) 0) (Lib.hid (HC c (by simp [kids, kids0]) 0))
  · rw [body_10 rfl]; exact text_10 a b c n pos nm s _ p1 p5 W (ch a (fst1 n)) (ch b (tight 10 n + 1)) (sgn n) (tight 10 n) (fst1 n) rfl rfl rfl (sgn_size n) (hch a (by simp [kids, kids0]) _) (hch b (by simp [kids, kids0]) _) (Lib.hid (HC a (by simp [kids, kids0]) _)) (Lib.hid (HC b (by simp [kids, kids0]) _))
  · rw [body_11 rfl]
    exact text_11 a b c n pos nm s _ p1 p5 W _ (hpp (.inl rfl)).1 (Lib.hid fun W' hW => parts_is l A cp l.length p1 p5 W' ch rfl hl ((hF.below hW).mono hW.size) (hall (.inl rfl)) (Lib.hid fun f hf W'' hW2 => HC _ (hcp (.inl rfl) f hf) 0 W'' (hW.trans (hW2.mono hW.size))) (by have := (hpp (.inl rfl)).1; omega))
  · rw [body_12 rfl]; exact text_12 a b c n pos nm s _ p1 p5 W (ch a 6) hnm (hch a (by simp [kids, kids0]) 6) (Lib.hid (HC a (by simp [kids, kids0]) 6))
  · rw [body_13 rfl]; exact text_13 a b c n pos nm s _ p1 p5 W (ch a 6) hnm (hch a (by simp [kids, kids0]) 6) (Lib.hid (HC a (by simp [kids, kids0]) 6))
  · rw [body_14 rfl]
    exact text_14 a b c n pos nm s _ p1 p5 W (ch a 0) _ (hch a (by simp [kids, kids0]) 0) (hpp (.inr rfl)).2 (Lib.hid (HC a (by simp [kids, kids0]) 0)) (Lib.hid fun W' hW => brs_is l A cp l.length p1 p5 W' ch rfl hl ((hF.below hW).mono hW.size) (hall (.inr rfl)) (Lib.hid fun f hf W'' hW2 => HC _ (hcp (.inr rfl) f hf) 0 W'' (hW.trans (hW2.mono hW.size))) (by have := (hpp (.inr rfl)).2; omega))
open T Go.RowKit Go.Shelf
structure Cl (B : Nat) (W : World) (p1 p5 b o N c : Nat) (l : List Nd) : Prop where
  hB : B <= W.heap.size
  h1 : p1 < B
  h5 : p5 < B
  hb : b < B
  c1 : W.cell? ⟨p1, 0, none⟩ = some (.slice (some ⟨b, o, none⟩) N c)
  c5 : W.cell? ⟨p5, 0, none⟩ = some (.func (.func 36) #[] #[.pointer (some ⟨p1, 0, none⟩), .pointer (some ⟨p5, 0, none⟩)])
  nd : NdsAt B W b o l
  on : Go.Proofs.YtjakeidbajkdcaaGreatDoor.L.On B W
theorem Cl.next {B : Nat} {W W' : World} {p1 p5 b o N c : Nat} {l : List Nd} (h : Cl B W p1 p5 b o N c l) (hb : Below B W W') : Cl B W' p1 p5 b o N c l :=
  ⟨Nat.le_trans h.hB hb.size, h.h1, h.h5, h.hb, (hb.cell (p := ⟨p1, 0, none⟩) h.h1).trans h.c1, (hb.cell (p := ⟨p5, 0, none⟩) h.h5).trans h.c5, h.nd.below hb h.hb, h.on.on hb⟩
theorem child_is (x : Nd) (FA : Option Addr) (FL fc : Nat) (t : Int) (i p1 p5 b o N c : Nat) (w : World) (s : ByteArray) (hs : s.size <= 1000000000) (hi : i < N) (_hL : N <= 600) (_h1 : p1 < w.heap.size) (h5 : p5 < w.heap.size)
    (c1 : w.cell? ⟨p1, 0, none⟩ = some (.slice (some ⟨b, o, none⟩) N c))
    (c5 : w.cell? ⟨p5, 0, none⟩ = some (.func (.func 36) #[] #[.pointer (some ⟨p1, 0, none⟩), .pointer (some ⟨p5, 0, none⟩)]))
    (m0 : w.cell? ⟨b, o + i * 9, none⟩ = some (.int .i64 x.kind)) (m1 : w.cell? ⟨b, o + i * 9 + 1, none⟩ = some (.int .i64 x.a)) (m2 : w.cell? ⟨b, o + i * 9 + 2, none⟩ = some (.int .i64 x.b)) (m3 : w.cell? ⟨b, o + i * 9 + 3, none⟩ = some (.int .i64 x.c)) (m4 : w.cell? ⟨b, o + i * 9 + 4, none⟩ = some (.int .i64 x.n))
    (m5 : w.cell? ⟨b, o + i * 9 + 5, none⟩ = some (.string x.nm)) (m6 : w.cell? ⟨b, o + i * 9 + 6, none⟩ = some (.string x.s)) (m7 : w.cell? ⟨b, o + i * 9 + 7, none⟩ = some (.slice FA FL fc)) (m8 : w.cell? ⟨b, o + i * 9 + 8, none⟩ = some (.int .i64 x.pos))
    (HT : Hid (∀ W, Below w.heap.size w W -> Calls Tryz.prog 37 #[.agg (ndArr x (.slice FA FL fc)), .func (.func 36) #[] #[.pointer (some ⟨p1, 0, none⟩), .pointer (some ⟨p5, 0, none⟩)]] W (SPost s W))) :
    Calls Tryz.prog 36 #[.int .i64 (i : Int), .int .i64 t, .pointer (some ⟨p1, 0, none⟩), .pointer (some ⟨p5, 0, none⟩)] w (SPost (bra (tight x.kind x.n) t s) w) := by
  obtain ⟨k, a, bb, cc, n, nm, sx, l, pos⟩ := x
  simp only [ndArr] at *
  obtain ⟨tt, htt⟩ : ∃ tt, tight k n = tt := ⟨_, rfl⟩
  have HTI := Lib.hid (tight_is k a bb cc n pos nm sx (.slice FA FL fc) tt htt)
  have HX := Lib.hid ((Below.refl w.heap.size w).alloc (Nat.le_refl _) (.cells #[.int .i64 k, .int .i64 a, .int .i64 bb, .int .i64 cc, .int .i64 n, .string nm, .string sx, .slice FA FL fc, .int .i64 pos] 37))
  have HG := Lib.hid (World.alloc_heap_new w (.cells #[.int .i64 k, .int .i64 a, .int .i64 bb, .int .i64 cc, .int .i64 n, .string nm, .string sx, .slice FA FL fc, .int .i64 pos] 37))
  have C5 := Lib.hid c5
  have H5 := Lib.hid h5
  rw [htt]
  clear htt
  have z0 : ∀ W : World, (Op.stringOp .add ⟨#[40]⟩ s).run Tryz.prog W = .ok (.string (⟨#[40]⟩ ++ s)) W := fun W => run_string_add_sum W _ _ (Nat.le_trans (Nat.add_le_add (Nat.le_refl 1) hs) (by decide))
  have z1 : ∀ W : World, (Op.stringOp .add (⟨#[40]⟩ ++ s) ⟨#[41]⟩).run Tryz.prog W = .ok (.string ((⟨#[40]⟩ ++ s) ++ ⟨#[41]⟩)) W := fun W => run_string_add_sum W _ _ (Nat.le_trans (Nat.add_le_add (cat_le (Nat.le_refl 1) hs) (Nat.le_refl 1)) (by decide))
  clear hs
  by_cases hlt : tt < t
  · have HS : Hid (bra tt t s = (⟨#[40]⟩ ++ s) ++ ⟨#[41]⟩) := Lib.hid (by unfold bra; rw [if_pos hlt])
    rw [HS.out]
    go_enter Tryz.func36, Tryz.ntmps36
    go_wp2_with (first | (go_at_call 37; refine (HT.out _ H1.out).mono ?_; rintro e w2 ⟨rfl, hb2⟩; have H2 := Lib.hid (H1.out.trans (hb2.mono H1.out.size)); clear hb2) | (go_at_call 17; refine (HTI.out _).mono ?_; rintro e w1 ⟨rfl, hb1⟩; have H1 := Lib.hid (HX.out.trans (hb1.mono HX.out.size)); have d5 := (H1.out.cell (p := ⟨p5, 0, none⟩) H5.out).trans C5.out; have G1 := Lib.hid ((hb1.block w.heap.size (Array.getElem?_eq_some_iff.1 HG.out).1).trans HG.out); obtain ⟨q0, q1, q2, q3, q4, q5, q6, q7, q8⟩ := nine G1.out; clear hb1))
    go_ret
    exact ⟨rfl, H2.out⟩
  · have HS : Hid (bra tt t s = s) := Lib.hid (by unfold bra; rw [if_neg hlt])
    rw [HS.out]
    go_enter Tryz.func36, Tryz.ntmps36
    go_wp2_with (first | (go_at_call 37; refine (HT.out _ H1.out).mono ?_; rintro e w2 ⟨rfl, hb2⟩; have H2 := Lib.hid (H1.out.trans (hb2.mono H1.out.size)); clear hb2) | (go_at_call 17; refine (HTI.out _).mono ?_; rintro e w1 ⟨rfl, hb1⟩; have H1 := Lib.hid (HX.out.trans (hb1.mono HX.out.size)); have d5 := (H1.out.cell (p := ⟨p5, 0, none⟩) H5.out).trans C5.out; have G1 := Lib.hid ((hb1.block w.heap.size (Array.getElem?_eq_some_iff.1 HG.out).1).trans HG.out); obtain ⟨q0, q1, q2, q3, q4, q5, q6, q7, q8⟩ := nine G1.out; clear hb1))
    go_ret
    exact ⟨rfl, H2.out⟩
open T Go.RowKit Go.Shelf
theorem wtext_le {n : Int} (h0 : -9223372036854775808 <= n) (h1 : n <= 9223372036854775807) : (W.wtext n).length <= 20 := by
  unfold W.wtext
  have h := W.dec_len19 n.natAbs (by omega)
  split
  · rw [List.length_cons]; omega
  · omega
theorem body_size {x : Nd} (ho : Own x) (h0 : -9223372036854775808 <= x.n) (h1 : x.n <= 9223372036854775807) {ch : Int -> Int -> ByteArray} {wt : Int -> Nat} (h : ∀ k ∈ kids x, ∀ t, (ch k t).size <= wt k) : (body x ch).size <= 1590 + ((kids x).map wt).sum := by
  have hk1 := ho.k1
  have hk2 := ho.k2
  have hcp : x.kind = 11 ∨ x.kind = 14 -> ∀ f ∈ x.l, f.pl ∈ kids x := fun hk f hf => by
    unfold kids many
    rw [List.mem_append]
    refine .inr ?_
    rcases hk with e | e <;> simp [e] <;> exact ⟨f, hf, rfl⟩
  have hps : x.kind = 11 ∨ x.kind = 14 -> ∀ f ∈ x.l, (ch f.pl 0).size <= wt f.pl := fun hk f hf => h _ (hcp hk f hf) 0
  have hnm := ho.nm
  have hcc : ∀ p q r : ByteArray, (p ++ q).size <= r.size -> (p ++ q).size <= r.size := fun _ _ _ h => h
  have hc : x.kind = 1 ∨ x.kind = 2 ∨ x.kind = 3 ∨ x.kind = 4 ∨ x.kind = 5 ∨ x.kind = 6 ∨ x.kind = 7 ∨ x.kind = 8 ∨ x.kind = 9 ∨ x.kind = 10 ∨ x.kind = 11 ∨ x.kind = 12 ∨ x.kind = 13 ∨ x.kind = 14 := by omega
  rcases hc with k | k | k | k | k | k | k | k | k | k | k | k | k | k
  · rw [body_1 k]
    have := wtext_le h0 h1
    show (W.wtext x.n).toArray.size <= _
    rw [List.size_toArray]; omega
  · rw [body_2 k]
    split
    · show 5 <= _; omega
    · show 4 <= _; omega
  · rw [body_3 k]
    have := Q.qtext_len x.s.data.toList
    have h2 := ho.s
    have h3 : x.s.data.toList.length <= 200 := by rw [Array.length_toList]; exact h2
    show (Q.qtext x.s.data.toList).toArray.size <= _
    rw [List.size_toArray]
    omega
  · rw [body_4 k]; omega
  · rw [body_5 k]
    have ka : x.a ∈ kids x := by simp [kids, kids0, k]
    have e : kids x = [x.a] := by simp [kids, kids0, k, many]
    have := h _ ka 0
    rw [e]
    simp only [size_app, size_lit, List.size_toArray, List.length_cons, List.length_nil, List.map_cons, List.map_nil, List.sum_cons, List.sum_nil]
    omega
  · rw [body_6 k]
    have e : kids x = [x.a, x.b] := by simp [kids, kids0, k, many]
    have ha := h x.a (by rw [e]; simp) 5
    have hb := h x.b (by rw [e]; simp) 6
    rw [e]
    simp only [size_app, size_lit, List.size_toArray, List.length_cons, List.length_nil, List.map_cons, List.map_nil, List.sum_cons, List.sum_nil]
    omega
  · rw [body_7 k]
    have e : kids x = [x.a, x.b] := by simp [kids, kids0, k, many]
    have ha := h x.a (by rw [e]; simp) 0
    have hb := h x.b (by rw [e]; simp) 0
    rw [e]
    simp only [size_app, size_lit, List.size_toArray, List.length_cons, List.length_nil, List.map_cons, List.map_nil, List.sum_cons, List.sum_nil]
    omega
  · rw [body_8 k]
    have e : kids x = [x.a, x.b] := by simp [kids, kids0, k, many]
    have ha := h x.a (by rw [e]; simp) 0
    have hb := h x.b (by rw [e]; simp) 0
    rw [e]
    simp only [size_app, size_lit, List.size_toArray, List.length_cons, List.length_nil, List.map_cons, List.map_nil, List.sum_cons, List.sum_nil]
    omega
  · rw [body_9 k]
    have e : kids x = [x.a, x.b, x.c] := by simp [kids, kids0, k, many]
    have ha := h x.a (by rw [e]; simp) 0
    have hb := h x.b (by rw [e]; simp) 0
    have hd := h x.c (by rw [e]; simp) 0
    rw [e]
    simp only [size_app, size_lit, List.size_toArray, List.length_cons, List.length_nil, List.map_cons, List.map_nil, List.sum_cons, List.sum_nil]
    omega
  · rw [body_10 k]
    have e : kids x = [x.a, x.b] := by simp [kids, kids0, k, many]
    have ha := h x.a (by rw [e]; simp) (fst1 x.n)
    have hb := h x.b (by rw [e]; simp) (tight 10 x.n + 1)
    have hg := sgn_size x.n
    rw [e]
    simp only [size_app, size_lit, List.size_toArray, List.length_cons, List.length_nil, List.map_cons, List.map_nil, List.sum_cons, List.sum_nil]
    omega
  · rw [body_11 k]
    have hp := parts_size ho (hps (.inl k))
    have e : kids x = x.l.map Fld.pl := by simp [kids, kids0, k, many]
    rw [e]
    simp only [size_app, size_lit, List.size_toArray, List.length_cons, List.length_nil]
    omega
  · rw [body_12 k]
    have e : kids x = [x.a] := by simp [kids, kids0, k, many]
    have ha := h x.a (by rw [e]; simp) 6
    rw [e]
    simp only [size_app, size_lit, List.size_toArray, List.length_cons, List.length_nil, List.map_cons, List.map_nil, List.sum_cons, List.sum_nil]
    omega
  · rw [body_13 k]
    have e : kids x = [x.a] := by simp [kids, kids0, k, many]
    have ha := h x.a (by rw [e]; simp) 6
    rw [e]
    simp only [size_app, size_lit, List.size_toArray, List.length_cons, List.length_nil, List.map_cons, List.map_nil, List.sum_cons, List.sum_nil]
    omega
  · rw [body_14 k]
    have hp := brs_size ho (hps (.inr k))
    have e : kids x = x.a :: x.l.map Fld.pl := by simp [kids, kids0, k, many]
    have ha := h x.a (by rw [e]; simp) 0
    rw [e]
    simp only [size_app, size_lit, List.size_toArray, List.length_cons, List.length_nil, List.map_cons, List.sum_cons]
    omega
structure Good (l : List Nd) : Prop where
  own : ∀ x ∈ l, Own x
  n : ∀ x ∈ l, -9223372036854775808 <= x.n /\ x.n <= 9223372036854775807
  kids : kidsOk l
  nd : (allKids l).Nodup
  len : l.length <= 600
theorem Good.k {l : List Nd} (h : Good l) : ∀ x ∈ l, 1 <= x.kind /\ x.kind <= 14 := fun x hx => ⟨(h.own x hx).k1, (h.own x hx).k2⟩
theorem good_of {l : List Nd} (h : may l = 0) (hn : ∀ x ∈ l, -9223372036854775808 <= x.n /\ x.n <= 9223372036854775807) : Good l := by
  obtain ⟨h1, ⟨h2, h3, h4, _⟩, _⟩ := may_zero h
  exact ⟨fun x hx => own_of (h2 x hx), hn, h3, h4.1, by omega⟩
theorem flat_len (l : List Nd) : ∀ ks : List Int, (ks.flatMap fun k => post l k.toNat).length * 1600 = (ks.map fun k => 1600 * (post l k.toNat).length).sum
  | [] => by simp
  | k :: ks => by
    have := flat_len l ks
    rw [List.flatMap_cons, List.length_append, List.map_cons, List.sum_cons, <- this, Nat.add_mul, Nat.mul_comm (post l k.toNat).length 1600]
theorem tx_size {l : List Nd} (hg : Good l) : ∀ i, i < l.length -> (tx l i).size + 2 <= 1600 * (post l i).length := by
  intro i
  induction i using Nat.strongRecOn with
  | ind i ih =>
    intro hi
    have hx := List.getElem?_eq_getElem hi
    generalize l[i] = x at hx
    have ha := hg.kids _ _ hx
    have hm := List.mem_of_getElem? hx
    rw [post_eq hx ha, tx_eq hg.kids hg.k hx, List.length_append, List.length_singleton]
    have hb := body_size (hg.own x hm) (hg.n x hm).1 (hg.n x hm).2 (ch := chOf l (tx l)) (wt := fun k => 1600 * (post l k.toNat).length) fun k hk t => by
      have h1 := ha k hk
      have h2 := ih k.toNat (by omega) (by omega)
      unfold chOf
      split
      · show 0 <= _; omega
      · refine Nat.le_trans (bra_size _ _ _) h2
    have := flat_len l (kids x)
    omega
theorem tx_le {l : List Nd} (hg : Good l) {i : Nat} (hi : i < l.length) : (tx l i).size + 2 <= 960000 := by
  have h1 := tx_size hg i hi
  have h2 := post_len hg.kids hg.nd hi
  have := hg.len
  omega
theorem ch_le {l : List Nd} (hg : Good l) (k t : Int) : (chOf l (tx l) k t).size <= 960000 := by
  unfold chOf
  split
  · exact Nat.zero_le _
  · rename_i y hy
    exact Nat.le_trans (bra_size _ _ _) (tx_le hg (List.getElem?_eq_some_iff.1 hy).1)
theorem ch_any {l : List Nd} (hg : Good l) {B p1 p5 b o c : Nat} : ∀ i, i < l.length -> ∀ t W, Cl B W p1 p5 b o l.length c l ->
    Calls Tryz.prog 36 #[.int .i64 (i : Int), .int .i64 t, .pointer (some ⟨p1, 0, none⟩), .pointer (some ⟨p5, 0, none⟩)] W (SPost (chOf l (tx l) i t) W) := by
  intro i
  induction i using Nat.strongRecOn with
  | ind i ih =>
    intro hi t W hC
    have hx := List.getElem?_eq_getElem hi
    generalize l[i] = x at hx
    have hm := List.mem_of_getElem? hx
    obtain ⟨fv, hfl, m0, m1, m2, m3, m4, m5, m6, m7, m8⟩ := hC.nd i x hx
    obtain ⟨FA, fc, rfl⟩ : ∃ A c, fv = .slice A x.l.length c := by
      obtain ⟨A, c, e, _⟩ := hfl
      exact ⟨A, c, e⟩
    have e : chOf l (tx l) i t = bra (tight x.kind x.n) t (tx l i) := by
      unfold chOf
      rw [Int.toNat_natCast, hx]
    rw [e]
    refine child_is x FA x.l.length fc t i p1 p5 b o l.length c W (tx l i) (by have := tx_le hg hi; omega) hi hg.len (by have := hC.hB; have := hC.h1; omega) (by have := hC.hB; have := hC.h5; omega) hC.c1 hC.c5 m0 m1 m2 m3 m4 m5 m6 m7 m8 (Lib.hid fun W' hW => ?_)
    have hC' := hC.next (hW.mono hC.hB)
    have hF' : Flds W'.heap.size W' (.slice FA x.l.length fc) x.l := ((hfl.below (hW.mono hC.hB)).mono (Nat.le_trans hC.hB hW.size))
    rw [tx_eq hg.kids hg.k hx]
    refine text_any x _ (hg.own x hm) (hg.n x hm).1 (hg.n x hm).2 p1 p5 W' (hC'.on.up hC'.hB) hF' (chOf l (tx l)) (fun k _ t => by have := ch_le hg k t; omega) fun k hk t W2 hW2 => ?_
    have hk2 := hg.kids _ _ hx k hk
    obtain ⟨j, rfl⟩ : ∃ j : Nat, k = (j : Int) := ⟨k.toNat, by omega⟩
    exact ih j (by omega) (by omega) t W2 (hC'.next (hW2.mono hC'.hB))
open T Go.RowKit Go.Shelf
theorem tight_0 (k n : Int) : 0 <= tight k n := by unfold tight; repeat' split <;> first | omega | decide
noncomputable def shown (l : List Nd) : ByteArray := if may l = 0 then tx l (l.length - 1) else ⟨#[]⟩
theorem shown_le {l : List Nd} (hg : Good l) (hm : may l = 0) : (shown l).size <= 960000 := by
  unfold shown
  rw [if_pos hm]
  have := (may_zero hm).1
  have := tx_le hg (i := l.length - 1) (by omega)
  omega
theorem print_any (l : List Nd) (v : Value) (w : World) (hO : Go.Proofs.YtjakeidbajkdcaaGreatDoor.L.On w.heap.size w) (hv : Nodes w.heap.size w v l) (hS : ∀ x ∈ l, Small x) (hn : ∀ x ∈ l, -9223372036854775808 <= x.n /\ x.n <= 9223372036854775807) :
    Calls Tryz.prog 15 #[.agg #[v]] w fun e w' => e = .returned (.tuple #[.string (shown l), .int .i64 (may l)]) /\ Below w.heap.size w w' := by
  have HX := Lib.hid ((Below.refl w.heap.size w).alloc (Nat.le_refl _) (.cells #[v] 25))
  have HG := Lib.hid (World.alloc_heap_new w (.cells #[v] 25))
  have HM := Lib.hid (may_any l v (w.alloc (.cells #[v] 25)) (Kws_mono (hO.1.on HX.out) HX.out.size) ((hv.below HX.out).mono HX.out.size) hS)
  have HO := Lib.hid hO
  have HV := Lib.hid hv
  clear hO hv
  by_cases hm : may l = 0
  · have hg := good_of hm hn
    have h1 := (may_zero hm).1
    obtain ⟨A, c, hvv, hcc, _, h3⟩ := HV.out
    obtain ⟨b, o, rfl, hb, hN⟩ := h3 (by omega)
    have hsh : shown l = chOf l (tx l) ((l.length - 1 : Nat) : Int) 0 := by
      unfold shown chOf
      rw [if_pos hm, Int.toNat_natCast, List.getElem?_eq_getElem (by omega)]
      simp only
      unfold bra
      rw [if_neg]
      have := tight_0 (l[l.length - 1]'(by omega)).kind (l[l.length - 1]'(by omega)).n
      omega
    have HZ : Hid ((shown l).size <= 281474976710656) := Lib.hid (by have := shown_le hg hm; omega)
    have HCA : Hid (∀ W p1 p5, Cl W.heap.size W p1 p5 b o l.length c l -> Calls Tryz.prog 36 #[.int .i64 ((l.length - 1 : Nat) : Int), .int .i64 0, .pointer (some ⟨p1, 0, none⟩), .pointer (some ⟨p5, 0, none⟩)] W (SPost (shown l) W)) := Lib.hid (fun W p1 p5 h => by rw [hsh]; exact ch_any hg _ (by omega) 0 W h)
    have HCL : Hid (∀ s : ByteArray, s.size <= 281474976710656 -> ∀ W, Calls Tryz.prog 38 #[.string s] W fun e w' => e = .returned (.string s) /\ Below W.heap.size W w') := Lib.hid fun s h W => Go.Proofs.YtjakeidbajkdcaaGreatDoor.L.clone_any s h W
    obtain ⟨N, hN1⟩ : ∃ N, l.length = N := ⟨_, rfl⟩
    rw [hN1] at h1 hcc HCA hsh hvv
    have HVV := Lib.hid hvv
    have hN0 : 1 <= N := by omega
    have hN6 : N <= 600 := by omega
    rw [show ((N - 1 : Nat) : Int) = (N : Int) - 1 by omega] at HCA
    rw [hm] at HM ⊢
    have HND : Hid (NdsAt w.heap.size w b o l) := Lib.hid hN
    have HPRE : Hid (∀ W, Below w.heap.size w W -> W.cell? ⟨w.heap.size, 0, none⟩ = some v -> w.heap.size < W.heap.size -> Cl (W.alloc (.cells #[.func (.func 36) #[] #[.pointer (some ⟨w.heap.size, 0, none⟩), .pointer (some ⟨W.heap.size, 0, none⟩)]] 69)).heap.size (W.alloc (.cells #[.func (.func 36) #[] #[.pointer (some ⟨w.heap.size, 0, none⟩), .pointer (some ⟨W.heap.size, 0, none⟩)]] 69)) w.heap.size W.heap.size b o N c l) := Lib.hid fun W hb1 hc hw => by
      have hb2 := hb1.alloc hb1.size (.cells #[.func (.func 36) #[] #[.pointer (some ⟨w.heap.size, 0, none⟩), .pointer (some ⟨W.heap.size, 0, none⟩)]] 69)
      have hz : (W.alloc (.cells #[.func (.func 36) #[] #[.pointer (some ⟨w.heap.size, 0, none⟩), .pointer (some ⟨W.heap.size, 0, none⟩)]] 69)).heap.size = W.heap.size + 1 := by simp
      refine ⟨Nat.le_refl _, by omega, by omega, by have := hb1.size; omega, ?_, ?_, (HND.out.below hb2 hb).mono hb2.size, (HO.out.on hb2).up hb2.size⟩
      · exact (((Below.refl W.heap.size W).alloc (Nat.le_refl _) _).cell (p := ⟨w.heap.size, 0, none⟩) hw).trans (hc.trans (by rw [HVV.out]))
      · exact Blk_cell (World.alloc_heap_new W _) 0
    clear hN hsh hg hm hN1 HV hn h3 h1 hS hcc hvv
    go_enter Tryz.func15, Tryz.ntmps15
    go_upto_region 6 with (go_at_call 13; refine HM.out.mono ?_; rintro e w1 ⟨rfl, hb1⟩; have H1 := Lib.hid (HX.out.trans (hb1.mono HX.out.size)); have G1 := Lib.hid ((hb1.block w.heap.size (Array.getElem?_eq_some_iff.1 HG.out).1).trans HG.out); have C1 := Lib.hid (HPRE.out w1 H1.out (Blk_cell G1.out 0) (Array.getElem?_eq_some_iff.1 G1.out).1); clear hb1)
    obtain rfl := HVV.out
    have k1 := C1.out.c1
    have k5 := C1.out.c5
    go_wp2_with (first | (go_at_call 38; refine (HCL.out _ HZ.out _).mono ?_; rintro e w3 ⟨rfl, hb3⟩; have H3 := Lib.hid (H2.out.trans (hb3.mono H2.out.size)); clear hb3) | (go_at_call 36; refine (HCA.out _ _ _ C1.out).mono ?_; rintro e w2 ⟨rfl, hb2⟩; have H2 := Lib.hid ((H1.out.alloc H1.out.size _).trans (hb2.mono (H1.out.alloc H1.out.size _).size)); clear hb2))
    go_ret2
    exact ⟨rfl, H3.out⟩
  · obtain ⟨m, hmm⟩ : ∃ m, may l = m := ⟨_, rfl⟩
    have hs : shown l = ⟨#[]⟩ := by unfold shown; rw [if_neg hm]
    rw [hmm] at hm HM
    rw [hs, hmm]
    have hne : (m != 0) = true := by simpa using hm
    clear hmm hm hs
    go_enter Tryz.func15, Tryz.ntmps15
    go_wp2_with (go_at_call 13; refine HM.out.mono ?_; rintro e w1 ⟨rfl, hb1⟩; have H1 := Lib.hid (HX.out.trans (hb1.mono HX.out.size)); clear hb1)
    go_ret2
    exact ⟨rfl, H1.out⟩
open T Go.RowKit Go.Shelf
theorem mk_of (a : ByteArray) : (⟨a.data.toList.toArray⟩ : ByteArray) = a := by
  apply ByteArray.ext
  simp
theorem joinB_one (sep : List UInt8) (x : ByteArray) : joinB sep [x] = x := by
  unfold joinB
  rw [List.map_cons, List.map_nil, Lib.join_one, mk_of]
end Go.Proofs.YtjakeidbajkdcaaGreatDoor.S
