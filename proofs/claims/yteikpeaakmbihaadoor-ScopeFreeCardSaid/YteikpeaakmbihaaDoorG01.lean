/- Joined by program: TKids, WKids. -/
import Derived.Test.YteikpeaakmbihaaDoorG00
import Derived.RangeFuncBox
/- Kids, the document's: the places of a node's children. -/
namespace Go.Proofs.YteikpeaakmbihaaDoor.T
open Go.RowKit
theorem row_new {B : Nat} (w : World) (cs : Array Value) (t : TypeId) (hB : B ≤ w.heap.size) (hm : cs.size ≤ maxLen) : (w.alloc (.cells cs t)).ownsRow B t 1 (.slice (some ⟨w.heap.size, 0, none⟩) cs.size cs.size) cs.size cs.toList :=
  ⟨by simp, .inr ⟨w.heap.size, cs.size, cs, rfl, hB, heap_alloc_new w _, Nat.le_refl _, hm, by simp, by rw [Nat.mul_one]; exact List.take_of_length_le (by simp)⟩⟩
theorem row_mono {B B' : Nat} {W : World} {e : TypeId} {size : Nat} {v : Value} {n : Nat} {xs : List Value} (h : W.ownsRow B' e size v n xs) (hB : B ≤ B') : W.ownsRow B e size v n xs := by
  refine ⟨h.1, ?_⟩
  rcases h.2 with h | ⟨g, cap, cur, h1, h2, h3⟩
  · exact .inl h
  · exact .inr ⟨g, cap, cur, h1, Nat.le_trans hB h2, h3⟩
theorem intInfo : (Tryd.prog.info? 3).map (fun i => (i.zero, i.size, i.bytes)) = some (some (.int .i64 0), 1, 8) := by kernel_rfl
/-- A row of whole numbers of the call's own. -/
def Ints (B : Nat) (W : World) (v : Value) (l : List Int) : Prop := W.ownsRow B 3 1 v l.length (l.map (Value.int .i64))
theorem Ints.new {B : Nat} (w : World) (l : List Int) (hB : B ≤ w.heap.size) (hm : l.length ≤ maxLen) : Ints B (w.alloc (.cells (l.map (Value.int .i64)).toArray 3)) (.slice (some ⟨w.heap.size, 0, none⟩) l.length l.length) l := by
  have := row_new (B := B) w (l.map (Value.int .i64)).toArray 3 hB (by simpa using hm)
  simpa [Ints] using this
theorem Ints.at {B : Nat} (w : World) (p n : Nat) (l : List Int) (hp : p = w.heap.size) (hn : n = l.length) (hB : B ≤ w.heap.size) (hm : l.length ≤ maxLen) : Ints B (w.alloc (.cells (l.map (Value.int .i64)).toArray 3)) (.slice (some ⟨p, 0, none⟩) n n) l := by
  subst hp hn; exact Ints.new w l hB hm
/-- What Kids answers. -/
def KidsPost (l : List Int) (B : Nat) (w : World) (e : Ending) (w' : World) : Prop := ∃ g c, e = .returned (.slice (some ⟨g, 0, none⟩) l.length c) ∧ Ints B w' (.slice (some ⟨g, 0, none⟩) l.length c) l ∧ Below B w w'
theorem KidsPost.of {l : List Int} {B : Nat} {w w' : World} {e : Ending} {v : Value} (he : e = .returned v) (g n c : Nat) (hv : v = .slice (some ⟨g, 0, none⟩) n c) (hn : n = l.length) (hi : Ints B w' v l) (hb : Below B w w') : KidsPost l B w e w' := by
  subst he hv hn; exact ⟨g, c, rfl, hi, hb⟩
theorem below3 {B : Nat} {w : World} (hB : B ≤ w.heap.size) (o1 o2 o3 : Obj) : Below B w (((w.alloc o1).alloc o2).alloc o3) :=
  (((Below.refl B w).alloc hB _).alloc (by simp; omega) _).alloc (by simp; omega) _
set_option maxHeartbeats 2000000 in
theorem kids_1 {B : Nat} (k a b c n pos : Int) (nm s : ByteArray) (vl : Value) (hk : k = 5 ∨ k = 12 ∨ k = 13) (w : World) (hB : B ≤ w.heap.size) :
    Calls Tryd.prog 17 #[.agg #[.int .i64 k, .int .i64 a, .int .i64 b, .int .i64 c, .int .i64 n, .string nm, .string s, vl, .int .i64 pos]] w (KidsPost [a] B w) := by
  rcases hk with rfl | rfl | rfl
  all_goals
    go_enter Tryd.func17, Tryd.ntmps17
    go_wp2
    go_ret
    exact KidsPost.of rfl (w.heap.size + 1 + 1) 1 1 rfl rfl (Ints.at (B := B) _ _ 1 [a] (by simp) rfl (by simp; omega) (by simp [maxLen])) (below3 hB _ _ _)
set_option maxHeartbeats 2000000 in
theorem kids_2 {B : Nat} (k a b c n pos : Int) (nm s : ByteArray) (vl : Value) (hk : k = 6 ∨ k = 7 ∨ k = 8 ∨ k = 10) (w : World) (hB : B ≤ w.heap.size) :
    Calls Tryd.prog 17 #[.agg #[.int .i64 k, .int .i64 a, .int .i64 b, .int .i64 c, .int .i64 n, .string nm, .string s, vl, .int .i64 pos]] w (KidsPost [a, b] B w) := by
  rcases hk with rfl | rfl | rfl | rfl
  all_goals
    go_enter Tryd.func17, Tryd.ntmps17
    go_wp2
    go_ret
    exact KidsPost.of rfl (w.heap.size + 1 + 1) 2 2 rfl rfl (Ints.at (B := B) _ _ 2 [a, b] (by simp) rfl (by simp; omega) (by simp [maxLen])) (below3 hB _ _ _)
set_option maxHeartbeats 2000000 in
theorem kids_3 {B : Nat} (a b c n pos : Int) (nm s : ByteArray) (vl : Value) (w : World) (hB : B ≤ w.heap.size) :
    Calls Tryd.prog 17 #[.agg #[.int .i64 9, .int .i64 a, .int .i64 b, .int .i64 c, .int .i64 n, .string nm, .string s, vl, .int .i64 pos]] w (KidsPost [a, b, c] B w) := by
  go_enter Tryd.func17, Tryd.ntmps17
  go_wp2
  go_ret
  exact KidsPost.of rfl (w.heap.size + 1 + 1) 3 3 rfl rfl (Ints.at (B := B) _ _ 3 [a, b, c] (by simp) rfl (by simp; omega) (by simp [maxLen])) (below3 hB _ _ _)
set_option maxHeartbeats 2000000 in
theorem kids_0 {B : Nat} (k a b c n pos : Int) (nm s : ByteArray) (vl : Value) (h5 : (k == 5) = false) (h12 : (k == 12) = false) (h13 : (k == 13) = false) (h6 : (k == 6) = false) (h7 : (k == 7) = false) (h8 : (k == 8) = false) (h10 : (k == 10) = false) (h9 : (k == 9) = false) (h14 : (k == 14) = false) (h11 : (k == 11) = false) (w : World) (hB : B ≤ w.heap.size) :
    Calls Tryd.prog 17 #[.agg #[.int .i64 k, .int .i64 a, .int .i64 b, .int .i64 c, .int .i64 n, .string nm, .string s, vl, .int .i64 pos]] w (KidsPost [] B w) := by
  go_enter Tryd.func17, Tryd.ntmps17
  go_wp2
  go_ret
  exact KidsPost.of rfl (w.heap.size + 1) 0 0 rfl rfl (Ints.at (B := B) _ _ 0 [] (by simp) rfl (by simp; omega) (by simp [maxLen])) (((Below.refl B w).alloc hB _).alloc (by simp; omega) _)
theorem pl_take (l : List Fld) (k : Nat) (f : Fld) (h : l[k]? = some f) : (l.take (k + 1)).map Fld.pl = (l.take k).map Fld.pl ++ [f.pl] := by
  have hk : k < l.length := (List.getElem?_eq_some_iff.1 h).1
  rw [List.take_succ_eq_append_getElem hk, List.map_append]
  have : l[k] = f := (List.getElem?_eq_some_iff.1 h).2
  simp [this]
theorem new1 (W : World) (t : TypeId) (v : Value) (j : Nat) (u : Value) (h : [v][j]? = some u) : (W.alloc (.cells #[v] t)).cell? ((⟨W.heap.size, 0, none⟩ : Addr).add j) = some u := by
  cases j with
  | zero =>
    rw [List.getElem?_cons_zero] at h
    rw [Addr.add_lit, World.cell?, heap_alloc_new]
    simpa using h
  | succ j => simp at h
set_option maxRecDepth 100000 in
set_option maxHeartbeats 4000000 in
theorem kids_p11 {B : Nat} (a b c n pos : Int) (nm s : ByteArray) (l : List Fld) (L cp fb fo : Nat) (HL : Hid (l.length = L)) (hL : L ≤ 1000000) (w : World) (hB : B ≤ w.heap.size) (hfb : fb < w.heap.size) (HF : Hid (FldsAt w fb fo l)) (R : List Int) (HRR : Hid (R = ([] : List Int) ++ l.map Fld.pl)) :
    Calls Tryd.prog 17 #[.agg #[.int .i64 11, .int .i64 a, .int .i64 b, .int .i64 c, .int .i64 n, .string nm, .string s, .slice (some ⟨fb, fo, none⟩) L cp, .int .i64 pos]] w (KidsPost R B w) := by
  obtain ⟨i0, hi, hz0, hz1, hz2⟩ := info_parts intInfo
  go_enter Tryd.func17, Tryd.ntmps17
  go_wp2
  go_loopw [3, 4] (fun v i wr => ∃ q g c' : Nat, v = .slice (some ⟨g, 0, none⟩) q c' ∧ i = .int .i64 (q : Int) ∧ q ≤ L ∧ Hid (wr.ownsRow (w.heap.size + 1) 3 1 (.slice (some ⟨g, 0, none⟩) q c') q ((([] : List Int) ++ (l.take q).map Fld.pl).map (Value.int .i64))) ∧ Hid (Below (w.heap.size + 1) (w.alloc (.cells #[.int .i64 11, .int .i64 a, .int .i64 b, .int .i64 c, .int .i64 n, .string nm, .string s, .slice (some ⟨fb, fo, none⟩) L cp, .int .i64 pos] 27)) wr)) (fun _ i _ => L - (intOf i).toNat)
  case atStart => exact ⟨0, _, _, rfl, rfl, by omega, Lib.hid (by rw [List.take_zero]; exact Ints.at (B := w.heap.size + 1) _ _ 0 [] (by simp) rfl (by simp) (by simp [maxLen])), Lib.hid ((Below.refl _ _).alloc (by simp) _)⟩
  case round =>
    obtain ⟨q, g, c', rfl, rfl, hq, HI, HB⟩ := hrel
    have hcb : wr.cell? ⟨w.heap.size, 7, none⟩ = some (.slice (some ⟨fb, fo, none⟩) L cp) := by
      rw [HB.out.cell (p := ⟨w.heap.size, 7, none⟩) (by simp), World.cell?, heap_alloc_new]
      rfl
    have hsz := HB.out.size
    rw [World.size_alloc] at hsz
    by_cases hlt : q < L
    · obtain ⟨fd, hfd⟩ : ∃ fd, l[q]? = some fd := ⟨_, List.getElem?_eq_getElem (by rw [HL.out]; exact hlt)⟩
      have hc2 : wr.cell? ⟨fb, fo + q * 3 + 2, none⟩ = some (.int .i64 fd.pl) := by
        rw [HB.out.cell (p := ⟨fb, _, none⟩) (by show fb < w.heap.size + 1; omega), ((Below.refl w.heap.size w).alloc (Nat.le_refl _) _).cell (p := ⟨fb, _, none⟩) hfb]
        exact (HF.out q fd hfd).2.2
      have HX := Lib.hid (pl_take l q fd hfd)
      clear hfd
      go_wp2_with (at_builtin; refine wpList_append_own _ rfl _ _ 34 rfl (w.heap.size + 1) 3 i0 (.int .i64 0) 1 8 Tryd.underlying34 hi hz0 hz1 hz2 rfl (by decide) _ _ _ rfl (HI.out.alloc _) ⟨wr.heap.size, 0, none⟩ 1 1 [.int .i64 fd.pl] rfl rfl (new1 wr 3 _) (fun u hu => by rw [List.mem_singleton.1 hu]; rfl) (by unfold maxLen; omega) (by omega) (by simp; omega) ?_; intro v' w2 hown' hgrow _; obtain ⟨g', cap', rfl⟩ := ownsRow_succ hown'; have HO := Lib.hid hown'; have HG := Lib.hid hgrow; clear hown' hgrow)
      go_roundw
      case rel =>
        refine ⟨q + 1, g', cap', rfl, by go_num, by omega, Lib.hid ?_, Lib.hid ((HB.out.alloc (by omega) _).grown HG.out (by simp; omega) (fun k hk => (HI.out.lt k hk).1))⟩
        have h := HO.out
        rw [HX.out, ← List.append_assoc, List.map_append]
        exact h
      case measure => simp [intOf]; omega
    · obtain rfl : q = L := by omega
      go_wp2
      go_ret
      refine KidsPost.of rfl _ _ _ rfl (by have := HL.out; rw [HRR.out]; simp; omega) ?_ ?_
      · have h := HI.out
        rw [List.take_of_length_le (by have := HL.out; omega)] at h
        have e : (([] : List Int) ++ l.map Fld.pl).length = q := by have := HL.out; simp; omega
        unfold Ints
        rw [HRR.out, e]
        exact row_mono h (by omega)
      · exact (((Below.refl B w).alloc hB _).trans (HB.out.mono (by omega)))
set_option maxRecDepth 100000 in
set_option maxHeartbeats 4000000 in
theorem kids_p14 {B : Nat} (a b c n pos : Int) (nm s : ByteArray) (l : List Fld) (L cp fb fo : Nat) (HL : Hid (l.length = L)) (hL : L ≤ 1000000) (w : World) (hB : B ≤ w.heap.size) (hfb : fb < w.heap.size) (HF : Hid (FldsAt w fb fo l)) (R : List Int) (HRR : Hid (R = [a] ++ l.map Fld.pl)) :
    Calls Tryd.prog 17 #[.agg #[.int .i64 14, .int .i64 a, .int .i64 b, .int .i64 c, .int .i64 n, .string nm, .string s, .slice (some ⟨fb, fo, none⟩) L cp, .int .i64 pos]] w (KidsPost R B w) := by
  obtain ⟨i0, hi, hz0, hz1, hz2⟩ := info_parts intInfo
  go_enter Tryd.func17, Tryd.ntmps17
  go_wp2
  go_loopw [3, 4] (fun v i wr => ∃ q g c' : Nat, v = .slice (some ⟨g, 0, none⟩) (q + 1) c' ∧ i = .int .i64 (q : Int) ∧ q ≤ L ∧ Hid (wr.ownsRow (w.heap.size + 1) 3 1 (.slice (some ⟨g, 0, none⟩) (q + 1) c') (q + 1) (([a] ++ (l.take q).map Fld.pl).map (Value.int .i64))) ∧ Hid (Below (w.heap.size + 1) (w.alloc (.cells #[.int .i64 14, .int .i64 a, .int .i64 b, .int .i64 c, .int .i64 n, .string nm, .string s, .slice (some ⟨fb, fo, none⟩) L cp, .int .i64 pos] 27)) wr)) (fun _ i _ => L - (intOf i).toNat)
  case atStart => exact ⟨0, _, _, rfl, rfl, by omega, Lib.hid (by rw [List.take_zero]; exact Ints.at (B := w.heap.size + 1) _ _ 1 [a] (by simp) rfl (by simp) (by simp [maxLen])), Lib.hid (((Below.refl _ _).alloc (by simp) _).alloc (by simp) _)⟩
  case round =>
    obtain ⟨q, g, c', rfl, rfl, hq, HI, HB⟩ := hrel
    have hcb : wr.cell? ⟨w.heap.size, 7, none⟩ = some (.slice (some ⟨fb, fo, none⟩) L cp) := by
      rw [HB.out.cell (p := ⟨w.heap.size, 7, none⟩) (by simp), World.cell?, heap_alloc_new]
      rfl
    have hsz := HB.out.size
    rw [World.size_alloc] at hsz
    by_cases hlt : q < L
    · obtain ⟨fd, hfd⟩ : ∃ fd, l[q]? = some fd := ⟨_, List.getElem?_eq_getElem (by rw [HL.out]; exact hlt)⟩
      have hc2 : wr.cell? ⟨fb, fo + q * 3 + 2, none⟩ = some (.int .i64 fd.pl) := by
        rw [HB.out.cell (p := ⟨fb, _, none⟩) (by show fb < w.heap.size + 1; omega), ((Below.refl w.heap.size w).alloc (Nat.le_refl _) _).cell (p := ⟨fb, _, none⟩) hfb]
        exact (HF.out q fd hfd).2.2
      have HX := Lib.hid (pl_take l q fd hfd)
      clear hfd
      go_wp2_with (at_builtin; refine wpList_append_own _ rfl _ _ 34 rfl (w.heap.size + 1) 3 i0 (.int .i64 0) 1 8 Tryd.underlying34 hi hz0 hz1 hz2 rfl (by decide) _ _ _ rfl (HI.out.alloc _) ⟨wr.heap.size, 0, none⟩ 1 1 [.int .i64 fd.pl] rfl rfl (new1 wr 3 _) (fun u hu => by rw [List.mem_singleton.1 hu]; rfl) (by unfold maxLen; omega) (by omega) (by simp; omega) ?_; intro v' w2 hown' hgrow _; obtain ⟨g', cap', rfl⟩ := ownsRow_succ hown'; have HO := Lib.hid hown'; have HG := Lib.hid hgrow; clear hown' hgrow)
      go_roundw
      case rel =>
        refine ⟨q + 1, g', cap', rfl, by go_num, by omega, Lib.hid ?_, Lib.hid ((HB.out.alloc (by omega) _).grown HG.out (by simp; omega) (fun k hk => (HI.out.lt k hk).1))⟩
        have h := HO.out
        rw [HX.out, ← List.append_assoc, List.map_append]
        exact h
      case measure => simp [intOf]; omega
    · obtain rfl : q = L := by omega
      go_wp2
      go_ret
      refine KidsPost.of rfl _ _ _ rfl (by have := HL.out; rw [HRR.out]; simp; omega) ?_ ?_
      · have h := HI.out
        rw [List.take_of_length_le (by have := HL.out; omega)] at h
        have e : ([a] ++ l.map Fld.pl).length = (q + 1) := by have := HL.out; simp; omega
        unfold Ints
        rw [HRR.out, e]
        exact row_mono h (by omega)
      · exact (((Below.refl B w).alloc hB _).trans (HB.out.mono (by omega)))
set_option maxRecDepth 100000 in
set_option maxHeartbeats 4000000 in
theorem kids_z {B : Nat} (k a b c n pos : Int) (nm s : ByteArray) (A : Option Addr) (cp : Nat) (base : List Int) (hk : (k = 11 ∧ base = []) ∨ (k = 14 ∧ base = [a])) (w : World) (hB : B ≤ w.heap.size) :
    Calls Tryd.prog 17 #[.agg #[.int .i64 k, .int .i64 a, .int .i64 b, .int .i64 c, .int .i64 n, .string nm, .string s, .slice A 0 cp, .int .i64 pos]] w (KidsPost base B w) := by
  rcases hk with ⟨rfl, rfl⟩ | ⟨rfl, rfl⟩
  · go_enter Tryd.func17, Tryd.ntmps17
    go_wp2
    go_loop [3, 4] (fun v i => v = .slice (some ⟨w.heap.size + 1, 0, none⟩) 0 0 ∧ i = .int .i64 0) (fun _ _ => 0)
    case atStart => exact ⟨rfl, rfl⟩
    case round =>
      obtain ⟨rfl, rfl⟩ := hrel
      go_wp2
      go_ret
      exact KidsPost.of rfl (w.heap.size + 1) 0 0 rfl rfl (Ints.at (B := B) _ _ 0 [] (by simp) rfl (by simp; omega) (by simp [maxLen])) (((Below.refl B w).alloc hB _).alloc (by simp; omega) _)
  · go_enter Tryd.func17, Tryd.ntmps17
    go_wp2
    go_loop [3, 4] (fun v i => v = .slice (some ⟨w.heap.size + 1 + 1, 0, none⟩) 1 1 ∧ i = .int .i64 0) (fun _ _ => 0)
    case atStart => exact ⟨rfl, rfl⟩
    case round =>
      obtain ⟨rfl, rfl⟩ := hrel
      go_wp2
      go_ret
      exact KidsPost.of rfl (w.heap.size + 1 + 1) 1 1 rfl rfl (Ints.at (B := B) _ _ 1 [a] (by simp) rfl (by simp; omega) (by simp [maxLen])) (below3 hB _ _ _)
theorem kids_any {B : Nat} (x : Nd) (vl : Value) (w : World) (hB : B ≤ w.heap.size) (hv : Flds w.heap.size w vl x.l) (hL : x.l.length ≤ 1000000) :
    Calls Tryd.prog 17 #[.agg (ndArr x vl)] w (KidsPost (kids x) B w) := by
  obtain ⟨k, a, b, c, n, nm, s, l, pos⟩ := x
  unfold ndArr
  simp only at hv hL ⊢
  by_cases h1 : k = 5 ∨ k = 12 ∨ k = 13
  · have e : kids ⟨k, a, b, c, n, nm, s, l, pos⟩ = [a] := by rcases h1 with rfl | rfl | rfl <;> rfl
    rw [e]; exact kids_1 k a b c n pos nm s vl h1 w hB
  · by_cases h2 : k = 6 ∨ k = 7 ∨ k = 8 ∨ k = 10
    · have e : kids ⟨k, a, b, c, n, nm, s, l, pos⟩ = [a, b] := by rcases h2 with rfl | rfl | rfl | rfl <;> rfl
      rw [e]; exact kids_2 k a b c n pos nm s vl h2 w hB
    · by_cases h3 : k = 9
      · subst h3
        exact kids_3 a b c n pos nm s vl w hB
      · by_cases h4 : k = 11
        · subst h4
          have e : kids ⟨11, a, b, c, n, nm, s, l, pos⟩ = ([] : List Int) ++ l.map Fld.pl := rfl
          rw [e]
          obtain ⟨A, cp, rfl, _, _, hq⟩ := hv
          by_cases h0 : 0 < l.length
          · obtain ⟨fb, fo, rfl, hlt, hf⟩ := hq h0
            exact kids_p11 a b c n pos nm s l _ cp fb fo (Lib.hid rfl) hL w hB hlt (Lib.hid hf) _ (Lib.hid rfl)
          · obtain rfl : l = [] := List.eq_nil_of_length_eq_zero (by omega)
            exact kids_z 11 a b c n pos nm s _ _ [] (.inl ⟨rfl, rfl⟩) w hB
        · by_cases h5 : k = 14
          · subst h5
            have e : kids ⟨14, a, b, c, n, nm, s, l, pos⟩ = [a] ++ l.map Fld.pl := rfl
            rw [e]
            obtain ⟨A, cp, rfl, _, _, hq⟩ := hv
            by_cases h0 : 0 < l.length
            · obtain ⟨fb, fo, rfl, hlt, hf⟩ := hq h0
              exact kids_p14 a b c n pos nm s l _ cp fb fo (Lib.hid rfl) hL w hB hlt (Lib.hid hf) _ (Lib.hid rfl)
            · obtain rfl : l = [] := List.eq_nil_of_length_eq_zero (by omega)
              exact kids_z 14 a b c n pos nm s _ _ [a] (.inr ⟨rfl, rfl⟩) w hB
          · have hne : ∀ m : Int, k ≠ m → (k == m) = false := fun m h => by simpa using h
            have e : kids ⟨k, a, b, c, n, nm, s, l, pos⟩ = [] := by
              have e0 : kids0 ⟨k, a, b, c, n, nm, s, l, pos⟩ = [] := by
                simp only [kids0]
                rw [if_neg (by omega), if_neg (by omega), if_neg (by omega)]
              have em : many ⟨k, a, b, c, n, nm, s, l, pos⟩ = false := by simp only [many, decide_eq_false_iff_not]; omega
              rw [kids, e0, em]; rfl
            rw [e]
            exact kids_0 k a b c n pos nm s vl (hne _ (by omega)) (hne _ (by omega)) (hne _ (by omega)) (hne _ (by omega)) (hne _ (by omega)) (hne _ (by omega)) (hne _ (by omega)) (hne _ (by omega)) (hne _ (by omega)) (hne _ (by omega)) w hB
end Go.Proofs.YteikpeaakmbihaaDoor.T
/- Kids, the document's, of a node as wide as the reach. -/
namespace Go.Proofs.YteikpeaakmbihaaDoor.T
open Go.RowKit
set_option maxRecDepth 100000 in
set_option maxHeartbeats 4000000 in
theorem kidsw_p11 {B : Nat} (a b c n pos : Int) (nm s : ByteArray) (l : List Fld) (L cp fb fo : Nat) (HL : Hid (l.length = L)) (hL : L ≤ 3518437208780) (w : World) (hB : B ≤ w.heap.size) (hfb : fb < w.heap.size) (HF : Hid (FldsAt w fb fo l)) (R : List Int) (HRR : Hid (R = ([] : List Int) ++ l.map Fld.pl)) :
    Calls Tryd.prog 17 #[.agg #[.int .i64 11, .int .i64 a, .int .i64 b, .int .i64 c, .int .i64 n, .string nm, .string s, .slice (some ⟨fb, fo, none⟩) L cp, .int .i64 pos]] w (KidsPost R B w) := by
  obtain ⟨i0, hi, hz0, hz1, hz2⟩ := info_parts intInfo
  go_enter Tryd.func17, Tryd.ntmps17
  go_wp2
  go_loopw [3, 4] (fun v i wr => ∃ q g c' : Nat, v = .slice (some ⟨g, 0, none⟩) q c' ∧ i = .int .i64 (q : Int) ∧ q ≤ L ∧ Hid (wr.ownsRow (w.heap.size + 1) 3 1 (.slice (some ⟨g, 0, none⟩) q c') q ((([] : List Int) ++ (l.take q).map Fld.pl).map (Value.int .i64))) ∧ Hid (Below (w.heap.size + 1) (w.alloc (.cells #[.int .i64 11, .int .i64 a, .int .i64 b, .int .i64 c, .int .i64 n, .string nm, .string s, .slice (some ⟨fb, fo, none⟩) L cp, .int .i64 pos] 27)) wr)) (fun _ i _ => L - (intOf i).toNat)
  case atStart => exact ⟨0, _, _, rfl, rfl, by omega, Lib.hid (by rw [List.take_zero]; exact Ints.at (B := w.heap.size + 1) _ _ 0 [] (by simp) rfl (by simp) (by simp [maxLen])), Lib.hid ((Below.refl _ _).alloc (by simp) _)⟩
  case round =>
    obtain ⟨q, g, c', rfl, rfl, hq, HI, HB⟩ := hrel
    have hcb : wr.cell? ⟨w.heap.size, 7, none⟩ = some (.slice (some ⟨fb, fo, none⟩) L cp) := by
      rw [HB.out.cell (p := ⟨w.heap.size, 7, none⟩) (by simp), World.cell?, heap_alloc_new]
      rfl
    have hsz := HB.out.size
    rw [World.size_alloc] at hsz
    by_cases hlt : q < L
    · obtain ⟨fd, hfd⟩ : ∃ fd, l[q]? = some fd := ⟨_, List.getElem?_eq_getElem (by rw [HL.out]; exact hlt)⟩
      have hc2 : wr.cell? ⟨fb, fo + q * 3 + 2, none⟩ = some (.int .i64 fd.pl) := by
        rw [HB.out.cell (p := ⟨fb, _, none⟩) (by show fb < w.heap.size + 1; omega), ((Below.refl w.heap.size w).alloc (Nat.le_refl _) _).cell (p := ⟨fb, _, none⟩) hfb]
        exact (HF.out q fd hfd).2.2
      have HX := Lib.hid (pl_take l q fd hfd)
      clear hfd
      go_wp2_with (at_builtin; refine wpList_append_own _ rfl _ _ 34 rfl (w.heap.size + 1) 3 i0 (.int .i64 0) 1 8 Tryd.underlying34 hi hz0 hz1 hz2 rfl (by decide) _ _ _ rfl (HI.out.alloc _) ⟨wr.heap.size, 0, none⟩ 1 1 [.int .i64 fd.pl] rfl rfl (new1 wr 3 _) (fun u hu => by rw [List.mem_singleton.1 hu]; rfl) (by unfold maxLen; omega) (by omega) (by simp; omega) ?_; intro v' w2 hown' hgrow _; obtain ⟨g', cap', rfl⟩ := ownsRow_succ hown'; have HO := Lib.hid hown'; have HG := Lib.hid hgrow; clear hown' hgrow)
      go_roundw
      case rel =>
        refine ⟨q + 1, g', cap', rfl, by go_num, by omega, Lib.hid ?_, Lib.hid ((HB.out.alloc (by omega) _).grown HG.out (by simp; omega) (fun k hk => (HI.out.lt k hk).1))⟩
        have h := HO.out
        rw [HX.out, ← List.append_assoc, List.map_append]
        exact h
      case measure => simp [intOf]; omega
    · obtain rfl : q = L := by omega
      go_wp2
      go_ret
      refine KidsPost.of rfl _ _ _ rfl (by have := HL.out; rw [HRR.out]; simp; omega) ?_ ?_
      · have h := HI.out
        rw [List.take_of_length_le (by have := HL.out; omega)] at h
        have e : (([] : List Int) ++ l.map Fld.pl).length = q := by have := HL.out; simp; omega
        unfold Ints
        rw [HRR.out, e]
        exact row_mono h (by omega)
      · exact (((Below.refl B w).alloc hB _).trans (HB.out.mono (by omega)))
set_option maxRecDepth 100000 in
set_option maxHeartbeats 4000000 in
theorem kidsw_p14 {B : Nat} (a b c n pos : Int) (nm s : ByteArray) (l : List Fld) (L cp fb fo : Nat) (HL : Hid (l.length = L)) (hL : L ≤ 3518437208780) (w : World) (hB : B ≤ w.heap.size) (hfb : fb < w.heap.size) (HF : Hid (FldsAt w fb fo l)) (R : List Int) (HRR : Hid (R = [a] ++ l.map Fld.pl)) :
    Calls Tryd.prog 17 #[.agg #[.int .i64 14, .int .i64 a, .int .i64 b, .int .i64 c, .int .i64 n, .string nm, .string s, .slice (some ⟨fb, fo, none⟩) L cp, .int .i64 pos]] w (KidsPost R B w) := by
  obtain ⟨i0, hi, hz0, hz1, hz2⟩ := info_parts intInfo
  go_enter Tryd.func17, Tryd.ntmps17
  go_wp2
  go_loopw [3, 4] (fun v i wr => ∃ q g c' : Nat, v = .slice (some ⟨g, 0, none⟩) (q + 1) c' ∧ i = .int .i64 (q : Int) ∧ q ≤ L ∧ Hid (wr.ownsRow (w.heap.size + 1) 3 1 (.slice (some ⟨g, 0, none⟩) (q + 1) c') (q + 1) (([a] ++ (l.take q).map Fld.pl).map (Value.int .i64))) ∧ Hid (Below (w.heap.size + 1) (w.alloc (.cells #[.int .i64 14, .int .i64 a, .int .i64 b, .int .i64 c, .int .i64 n, .string nm, .string s, .slice (some ⟨fb, fo, none⟩) L cp, .int .i64 pos] 27)) wr)) (fun _ i _ => L - (intOf i).toNat)
  case atStart => exact ⟨0, _, _, rfl, rfl, by omega, Lib.hid (by rw [List.take_zero]; exact Ints.at (B := w.heap.size + 1) _ _ 1 [a] (by simp) rfl (by simp) (by simp [maxLen])), Lib.hid (((Below.refl _ _).alloc (by simp) _).alloc (by simp) _)⟩
  case round =>
    obtain ⟨q, g, c', rfl, rfl, hq, HI, HB⟩ := hrel
    have hcb : wr.cell? ⟨w.heap.size, 7, none⟩ = some (.slice (some ⟨fb, fo, none⟩) L cp) := by
      rw [HB.out.cell (p := ⟨w.heap.size, 7, none⟩) (by simp), World.cell?, heap_alloc_new]
      rfl
    have hsz := HB.out.size
    rw [World.size_alloc] at hsz
    by_cases hlt : q < L
    · obtain ⟨fd, hfd⟩ : ∃ fd, l[q]? = some fd := ⟨_, List.getElem?_eq_getElem (by rw [HL.out]; exact hlt)⟩
      have hc2 : wr.cell? ⟨fb, fo + q * 3 + 2, none⟩ = some (.int .i64 fd.pl) := by
        rw [HB.out.cell (p := ⟨fb, _, none⟩) (by show fb < w.heap.size + 1; omega), ((Below.refl w.heap.size w).alloc (Nat.le_refl _) _).cell (p := ⟨fb, _, none⟩) hfb]
        exact (HF.out q fd hfd).2.2
      have HX := Lib.hid (pl_take l q fd hfd)
      clear hfd
      go_wp2_with (at_builtin; refine wpList_append_own _ rfl _ _ 34 rfl (w.heap.size + 1) 3 i0 (.int .i64 0) 1 8 Tryd.underlying34 hi hz0 hz1 hz2 rfl (by decide) _ _ _ rfl (HI.out.alloc _) ⟨wr.heap.size, 0, none⟩ 1 1 [.int .i64 fd.pl] rfl rfl (new1 wr 3 _) (fun u hu => by rw [List.mem_singleton.1 hu]; rfl) (by unfold maxLen; omega) (by omega) (by simp; omega) ?_; intro v' w2 hown' hgrow _; obtain ⟨g', cap', rfl⟩ := ownsRow_succ hown'; have HO := Lib.hid hown'; have HG := Lib.hid hgrow; clear hown' hgrow)
      go_roundw
      case rel =>
        refine ⟨q + 1, g', cap', rfl, by go_num, by omega, Lib.hid ?_, Lib.hid ((HB.out.alloc (by omega) _).grown HG.out (by simp; omega) (fun k hk => (HI.out.lt k hk).1))⟩
        have h := HO.out
        rw [HX.out, ← List.append_assoc, List.map_append]
        exact h
      case measure => simp [intOf]; omega
    · obtain rfl : q = L := by omega
      go_wp2
      go_ret
      refine KidsPost.of rfl _ _ _ rfl (by have := HL.out; rw [HRR.out]; simp; omega) ?_ ?_
      · have h := HI.out
        rw [List.take_of_length_le (by have := HL.out; omega)] at h
        have e : ([a] ++ l.map Fld.pl).length = (q + 1) := by have := HL.out; simp; omega
        unfold Ints
        rw [HRR.out, e]
        exact row_mono h (by omega)
      · exact (((Below.refl B w).alloc hB _).trans (HB.out.mono (by omega)))
theorem kidsw_any {B : Nat} (x : Nd) (vl : Value) (w : World) (hB : B ≤ w.heap.size) (hv : Flds w.heap.size w vl x.l) (hL : x.l.length ≤ 3518437208780) :
    Calls Tryd.prog 17 #[.agg (ndArr x vl)] w (KidsPost (kids x) B w) := by
  obtain ⟨k, a, b, c, n, nm, s, l, pos⟩ := x
  unfold ndArr
  simp only at hv hL ⊢
  by_cases h1 : k = 5 ∨ k = 12 ∨ k = 13
  · have e : kids ⟨k, a, b, c, n, nm, s, l, pos⟩ = [a] := by rcases h1 with rfl | rfl | rfl <;> rfl
    rw [e]; exact kids_1 k a b c n pos nm s vl h1 w hB
  · by_cases h2 : k = 6 ∨ k = 7 ∨ k = 8 ∨ k = 10
    · have e : kids ⟨k, a, b, c, n, nm, s, l, pos⟩ = [a, b] := by rcases h2 with rfl | rfl | rfl | rfl <;> rfl
      rw [e]; exact kids_2 k a b c n pos nm s vl h2 w hB
    · by_cases h3 : k = 9
      · subst h3
        exact kids_3 a b c n pos nm s vl w hB
      · by_cases h4 : k = 11
        · subst h4
          have e : kids ⟨11, a, b, c, n, nm, s, l, pos⟩ = ([] : List Int) ++ l.map Fld.pl := rfl
          rw [e]
          obtain ⟨A, cp, rfl, _, _, hq⟩ := hv
          by_cases h0 : 0 < l.length
          · obtain ⟨fb, fo, rfl, hlt, hf⟩ := hq h0
            exact kidsw_p11 a b c n pos nm s l _ cp fb fo (Lib.hid rfl) hL w hB hlt (Lib.hid hf) _ (Lib.hid rfl)
          · obtain rfl : l = [] := List.eq_nil_of_length_eq_zero (by omega)
            exact kids_z 11 a b c n pos nm s _ _ [] (.inl ⟨rfl, rfl⟩) w hB
        · by_cases h5 : k = 14
          · subst h5
            have e : kids ⟨14, a, b, c, n, nm, s, l, pos⟩ = [a] ++ l.map Fld.pl := rfl
            rw [e]
            obtain ⟨A, cp, rfl, _, _, hq⟩ := hv
            by_cases h0 : 0 < l.length
            · obtain ⟨fb, fo, rfl, hlt, hf⟩ := hq h0
              exact kidsw_p14 a b c n pos nm s l _ cp fb fo (Lib.hid rfl) hL w hB hlt (Lib.hid hf) _ (Lib.hid rfl)
            · obtain rfl : l = [] := List.eq_nil_of_length_eq_zero (by omega)
              exact kids_z 14 a b c n pos nm s _ _ [a] (.inr ⟨rfl, rfl⟩) w hB
          · have hne : ∀ m : Int, k ≠ m → (k == m) = false := fun m h => by simpa using h
            have e : kids ⟨k, a, b, c, n, nm, s, l, pos⟩ = [] := by
              have e0 : kids0 ⟨k, a, b, c, n, nm, s, l, pos⟩ = [] := by
                simp only [kids0]
                rw [if_neg (by omega), if_neg (by omega), if_neg (by omega)]
              have em : many ⟨k, a, b, c, n, nm, s, l, pos⟩ = false := by simp only [many, decide_eq_false_iff_not]; omega
              rw [kids, e0, em]; rfl
            rw [e]
            exact kids_0 k a b c n pos nm s vl (hne _ (by omega)) (hne _ (by omega)) (hne _ (by omega)) (hne _ (by omega)) (hne _ (by omega)) (hne _ (by omega)) (hne _ (by omega)) (hne _ (by omega)) (hne _ (by omega)) (hne _ (by omega)) w hB
end Go.Proofs.YteikpeaakmbihaaDoor.T
