/- one, the document's: the token at a place of a text, and how many bytes it has. -/
import Derived.Test.YtekbfgjlkmldgaaDoorLRSign
import Derived.Test.YtekbfgjlkmldgaaDoorWRTexts
import Derived.Test.YtekbfgjlkmldgaaDoorQRTake
namespace Go.Proofs.YtekbfgjlkmldgaaDoor.L
open Go.RowKit
/-- What one answers. -/
def EP (k : Int) (t : ByteArray) (n p l x : Int) (B : Nat) (w : World) (e : Ending) (w' : World) : Prop :=
  e = .returned (.tuple #[.agg #[.int .i64 k, .string t, .int .i64 n, .int .i64 p], .int .i64 l, .int .i64 x]) ∧ Below B w w'
theorem below4z {B : Nat} {w : World} (o : Obj) (hB : B ≤ w.heap.size) : Below B w (w.alloc o) := (Below.refl B w).alloc hB o
set_option maxRecDepth 100000 in
set_option maxHeartbeats 2000000 in
theorem one_w7 {B : Nat} (s x : ByteArray) (p : Nat) (hp : p ≤ s.size) (hx : s.extract p s.size = x) (h0 : 0 < x.size) (HS : Hid (x.size ≤ 140737488351232)) (w : World) (hB : B ≤ w.heap.size) (m : Nat) (hm : 0 < m) (hmx : m ≤ x.size) (y : ByteArray) (hy : x.extract 0 m = y) (HL : Hid (M.wl x = m)) (h20 : 20 < m) :
    Calls Tryd.prog 16 #[.string s, .int .i64 (p : Int)] w (EP 0 ⟨#[]⟩ 0 0 0 7 B w) := by
  go_enter Tryd.func16, Tryd.ntmps16
  go_wp2_with (first
    | (go_at_call 21; (with_reducible refine (M.rword_is HL.out HS.out _).mono ?_); rintro e w' ⟨rfl, rfl⟩))
  exact bodyPost_ret (v := .tuple #[.agg #[.int .i64 0, .string ⟨#[]⟩, .int .i64 0, .int .i64 0], .int .i64 0, .int .i64 7]) (by simp [results, Tryd.results16, go_sem]) rfl ⟨rfl, (Below.refl B w).alloc hB _⟩
set_option maxRecDepth 100000 in
set_option maxHeartbeats 2000000 in
theorem one_w1 {B : Nat} (s x : ByteArray) (p : Nat) (hp : p ≤ s.size) (hx : s.extract p s.size = x) (h0 : 0 < x.size) (HS : Hid (x.size ≤ 140737488351232)) (w : World) (hB : B ≤ w.heap.size) (m : Nat) (hm : 0 < m) (hmx : m ≤ x.size) (y : ByteArray) (hy : x.extract 0 m = y) (HL : Hid (M.wl x = m)) (h20 : m ≤ 20) (HK : Hid (M.kwB y = true)) :
    Calls Tryd.prog 16 #[.string s, .int .i64 (p : Int)] w (EP 1 y 0 p m 0 B w) := by
  go_enter Tryd.func16, Tryd.ntmps16
  go_wp2_with (first
    | (go_at_call 21; (with_reducible refine (M.rword_is HL.out HS.out _).mono ?_); rintro e w' ⟨rfl, rfl⟩)
    | (go_at_call 22; refine (M.rkeyword_is HK.out _).mono ?_; rintro e w' ⟨rfl, hb⟩; obtain ⟨hc, hf⟩ := bcell hb))
  exact bodyPost_ret (v := .tuple #[.agg #[.int .i64 1, .string y, .int .i64 0, .int .i64 (p : Int)], .int .i64 (m : Int), .int .i64 0]) (by simp [results, Tryd.results16, go_sem, hc]) rfl ⟨rfl, below4 hB hb (by simp) _ _ _ _⟩
set_option maxRecDepth 100000 in
set_option maxHeartbeats 2000000 in
theorem one_w3 {B : Nat} (s x : ByteArray) (p : Nat) (hp : p ≤ s.size) (hx : s.extract p s.size = x) (h0 : 0 < x.size) (HS : Hid (x.size ≤ 140737488351232)) (w : World) (hB : B ≤ w.heap.size) (m : Nat) (hm : 0 < m) (hmx : m ≤ x.size) (y : ByteArray) (hy : x.extract 0 m = y) (HL : Hid (M.wl x = m)) (h20 : m ≤ 20) (HK : Hid (M.kwB y = false)) (h65 : (65 : Int) ≤ x[0].toNat) (h90 : (x[0].toNat : Int) ≤ 90) :
    Calls Tryd.prog 16 #[.string s, .int .i64 (p : Int)] w (EP 3 y 0 p m 0 B w) := by
  go_enter Tryd.func16, Tryd.ntmps16
  go_wp2_with (first
    | (go_at_call 21; (with_reducible refine (M.rword_is HL.out HS.out _).mono ?_); rintro e w' ⟨rfl, rfl⟩)
    | (go_at_call 22; refine (M.rkeyword_is HK.out _).mono ?_; rintro e w' ⟨rfl, hb⟩; obtain ⟨hc, hf⟩ := bcell hb))
  exact bodyPost_ret (v := .tuple #[.agg #[.int .i64 3, .string y, .int .i64 0, .int .i64 (p : Int)], .int .i64 (m : Int), .int .i64 0]) (by simp [results, Tryd.results16, go_sem, hc]) rfl ⟨rfl, below4 hB hb (by simp) _ _ _ _⟩
set_option maxRecDepth 100000 in
set_option maxHeartbeats 2000000 in
theorem one_w2 {B : Nat} (s x : ByteArray) (p : Nat) (hp : p ≤ s.size) (hx : s.extract p s.size = x) (h0 : 0 < x.size) (HS : Hid (x.size ≤ 140737488351232)) (w : World) (hB : B ≤ w.heap.size) (m : Nat) (hm : 0 < m) (hmx : m ≤ x.size) (y : ByteArray) (hy : x.extract 0 m = y) (HL : Hid (M.wl x = m)) (h20 : m ≤ 20) (HK : Hid (M.kwB y = false)) (h65 : (65 : Int) ≤ x[0].toNat) (h90 : (90 : Int) < x[0].toNat) :
    Calls Tryd.prog 16 #[.string s, .int .i64 (p : Int)] w (EP 2 y 0 p m 0 B w) := by
  go_enter Tryd.func16, Tryd.ntmps16
  go_wp2_with (first
    | (go_at_call 21; (with_reducible refine (M.rword_is HL.out HS.out _).mono ?_); rintro e w' ⟨rfl, rfl⟩)
    | (go_at_call 22; refine (M.rkeyword_is HK.out _).mono ?_; rintro e w' ⟨rfl, hb⟩; obtain ⟨hc, hf⟩ := bcell hb))
  exact bodyPost_ret (v := .tuple #[.agg #[.int .i64 2, .string y, .int .i64 0, .int .i64 (p : Int)], .int .i64 (m : Int), .int .i64 0]) (by simp [results, Tryd.results16, go_sem, hc]) rfl ⟨rfl, below4 hB hb (by simp) _ _ _ _⟩
set_option maxRecDepth 100000 in
set_option maxHeartbeats 2000000 in
theorem one_v0 {B : Nat} (s x : ByteArray) (p : Nat) (hp : p ≤ s.size) (hx : s.extract p s.size = x) (h0 : 0 < x.size) (HS : Hid (x.size ≤ 140737488351232)) (w : World) (hB : B ≤ w.heap.size) (HL : Hid (M.wl x = 0)) (h39 : ((x[0].toNat : Int) == 39) = true) (z : ByteArray) (hz : x.extract 1 x.size = z) (HZ : Hid (z.size ≤ 140737488351232)) (HM : Hid (M.wl z = 0)) :
    Calls Tryd.prog 16 #[.string s, .int .i64 (p : Int)] w (EP 0 ⟨#[]⟩ 0 0 0 5 B w) := by
  go_enter Tryd.func16, Tryd.ntmps16
  go_wp2_with (first
    | (go_at_call 21; (with_reducible refine (M.rword_is HL.out HS.out _).mono ?_); rintro e w' ⟨rfl, rfl⟩)
    | (go_at_call 21; (with_reducible refine (M.rword_is HM.out HZ.out _).mono ?_); rintro e w' ⟨rfl, rfl⟩))
  exact bodyPost_ret (v := .tuple #[.agg #[.int .i64 0, .string ⟨#[]⟩, .int .i64 0, .int .i64 0], .int .i64 0, .int .i64 5]) (by simp [results, Tryd.results16, go_sem]) rfl ⟨rfl, (Below.refl B w).alloc hB _⟩
set_option maxRecDepth 100000 in
set_option maxHeartbeats 2000000 in
theorem one_v1 {B : Nat} (s x : ByteArray) (p : Nat) (hp : p ≤ s.size) (hx : s.extract p s.size = x) (h0 : 0 < x.size) (HS : Hid (x.size ≤ 140737488351232)) (w : World) (hB : B ≤ w.heap.size) (HL : Hid (M.wl x = 0)) (h39 : ((x[0].toNat : Int) == 39) = true) (z : ByteArray) (hz : x.extract 1 x.size = z) (HZ : Hid (z.size ≤ 140737488351232)) (m : Nat) (HM : Hid (M.wl z = m)) (hm0 : ((m : Int) == 0) = false) (hx1 : 1 < x.size) (h65 : (65 : Int) ≤ x[1].toNat) (h90 : (x[1].toNat : Int) ≤ 90) :
    Calls Tryd.prog 16 #[.string s, .int .i64 (p : Int)] w (EP 0 ⟨#[]⟩ 0 0 0 5 B w) := by
  go_enter Tryd.func16, Tryd.ntmps16
  go_wp2_with (first
    | (go_at_call 21; (with_reducible refine (M.rword_is HL.out HS.out _).mono ?_); rintro e w' ⟨rfl, rfl⟩)
    | (go_at_call 21; (with_reducible refine (M.rword_is HM.out HZ.out _).mono ?_); rintro e w' ⟨rfl, rfl⟩))
  exact bodyPost_ret (v := .tuple #[.agg #[.int .i64 0, .string ⟨#[]⟩, .int .i64 0, .int .i64 0], .int .i64 0, .int .i64 5]) (by simp [results, Tryd.results16, go_sem]) rfl ⟨rfl, (Below.refl B w).alloc hB _⟩
set_option maxRecDepth 100000 in
set_option maxHeartbeats 2000000 in
theorem one_v2 {B : Nat} (s x : ByteArray) (p : Nat) (hp : p ≤ s.size) (hx : s.extract p s.size = x) (h0 : 0 < x.size) (HS : Hid (x.size ≤ 140737488351232)) (w : World) (hB : B ≤ w.heap.size) (HL : Hid (M.wl x = 0)) (h39 : ((x[0].toNat : Int) == 39) = true) (z : ByteArray) (hz : x.extract 1 x.size = z) (HZ : Hid (z.size ≤ 140737488351232)) (m : Nat) (HM : Hid (M.wl z = m)) (hm0 : ((m : Int) == 0) = false) (hx1 : 1 < x.size) (h65 : (65 : Int) ≤ x[1].toNat) (h90 : (90 : Int) < x[1].toNat) (h20 : 20 < m) :
    Calls Tryd.prog 16 #[.string s, .int .i64 (p : Int)] w (EP 0 ⟨#[]⟩ 0 0 0 7 B w) := by
  go_enter Tryd.func16, Tryd.ntmps16
  go_wp2_with (first
    | (go_at_call 21; (with_reducible refine (M.rword_is HL.out HS.out _).mono ?_); rintro e w' ⟨rfl, rfl⟩)
    | (go_at_call 21; (with_reducible refine (M.rword_is HM.out HZ.out _).mono ?_); rintro e w' ⟨rfl, rfl⟩))
  exact bodyPost_ret (v := .tuple #[.agg #[.int .i64 0, .string ⟨#[]⟩, .int .i64 0, .int .i64 0], .int .i64 0, .int .i64 7]) (by simp [results, Tryd.results16, go_sem]) rfl ⟨rfl, (Below.refl B w).alloc hB _⟩
set_option maxRecDepth 100000 in
set_option maxHeartbeats 2000000 in
theorem one_v3 {B : Nat} (s x : ByteArray) (p : Nat) (hp : p ≤ s.size) (hx : s.extract p s.size = x) (h0 : 0 < x.size) (HS : Hid (x.size ≤ 140737488351232)) (w : World) (hB : B ≤ w.heap.size) (HL : Hid (M.wl x = 0)) (h39 : ((x[0].toNat : Int) == 39) = true) (z : ByteArray) (hz : x.extract 1 x.size = z) (HZ : Hid (z.size ≤ 140737488351232)) (m : Nat) (HM : Hid (M.wl z = m)) (hm0 : ((m : Int) == 0) = false) (hx1 : 1 < x.size) (h65 : (65 : Int) ≤ x[1].toNat) (h90 : (90 : Int) < x[1].toNat) (h20 : m ≤ 20) (hmx : 1 + m ≤ x.size) (y : ByteArray) (hy : x.extract 1 (1 + m) = y) :
    Calls Tryd.prog 16 #[.string s, .int .i64 (p : Int)] w (EP 6 y 0 p (1 + m) 0 B w) := by
  go_enter Tryd.func16, Tryd.ntmps16
  go_wp2_with (first
    | (go_at_call 21; (with_reducible refine (M.rword_is HL.out HS.out _).mono ?_); rintro e w' ⟨rfl, rfl⟩)
    | (go_at_call 21; (with_reducible refine (M.rword_is HM.out HZ.out _).mono ?_); rintro e w' ⟨rfl, rfl⟩))
  exact bodyPost_ret (v := .tuple #[.agg #[.int .i64 6, .string y, .int .i64 0, .int .i64 (p : Int)], .int .i64 (1 + m : Int), .int .i64 0]) (by simp [results, Tryd.results16, go_sem]) rfl ⟨rfl, (Below.refl B w).alloc hB _⟩
set_option maxRecDepth 100000 in
set_option maxHeartbeats 2000000 in
theorem one_t0 {B : Nat} (s x : ByteArray) (p : Nat) (hp : p ≤ s.size) (hx : s.extract p s.size = x) (h0 : 0 < x.size) (HS : Hid (x.size ≤ 140737488351232)) (w : World) (hB : B ≤ w.heap.size) (HL : Hid (M.wl x = 0)) (h39 : ((x[0].toNat : Int) == 39) = false) (h126 : ((x[0].toNat : Int) == 126) = false) (h48 : (x[0].toNat : Int) < 48) (h34 : ((x[0].toNat : Int) == 34) = true) (T : ByteArray) (m : Nat) (HC : Hid (∀ w1, Calls Tryd.prog 24 #[.string x] w1 fun e w' => e = .returned (.tuple #[.string T, .int .i64 (m : Int), .int .i64 0]) ∧ Below w1.heap.size w1 w')) :
    Calls Tryd.prog 16 #[.string s, .int .i64 (p : Int)] w (EP 5 T 0 p m 0 B w) := by
  go_enter Tryd.func16, Tryd.ntmps16
  go_wp2_with (first
    | (go_at_call 21; (with_reducible refine (M.rword_is HL.out HS.out _).mono ?_); rintro e w' ⟨rfl, rfl⟩)
    | (go_at_call 24; refine (HC.out _).mono ?_; rintro e w' ⟨rfl, hb⟩; obtain ⟨hc, hf⟩ := bcell hb))
  exact bodyPost_ret (v := .tuple #[.agg #[.int .i64 5, .string T, .int .i64 0, .int .i64 (p : Int)], .int .i64 (m : Int), .int .i64 0]) (by simp [results, Tryd.results16, go_sem, hc]) rfl ⟨rfl, below4 hB hb (by simp) _ _ _ _⟩
set_option maxRecDepth 100000 in
set_option maxHeartbeats 2000000 in
theorem one_t1 {B : Nat} (s x : ByteArray) (p : Nat) (hp : p ≤ s.size) (hx : s.extract p s.size = x) (h0 : 0 < x.size) (HS : Hid (x.size ≤ 140737488351232)) (w : World) (hB : B ≤ w.heap.size) (HL : Hid (M.wl x = 0)) (h39 : ((x[0].toNat : Int) == 39) = false) (h126 : ((x[0].toNat : Int) == 126) = false) (h48 : (x[0].toNat : Int) < 48) (h34 : ((x[0].toNat : Int) == 34) = true) (T : ByteArray) (m : Nat) (q : Int) (hq : (q != 0) = true) (HC : Hid (∀ w1, Calls Tryd.prog 24 #[.string x] w1 fun e w' => e = .returned (.tuple #[.string T, .int .i64 (m : Int), .int .i64 q]) ∧ Below w1.heap.size w1 w')) :
    Calls Tryd.prog 16 #[.string s, .int .i64 (p : Int)] w (EP 0 ⟨#[]⟩ 0 0 0 q B w) := by
  go_enter Tryd.func16, Tryd.ntmps16
  go_wp2_with (first
    | (go_at_call 21; (with_reducible refine (M.rword_is HL.out HS.out _).mono ?_); rintro e w' ⟨rfl, rfl⟩)
    | (go_at_call 24; refine (HC.out _).mono ?_; rintro e w' ⟨rfl, hb⟩; obtain ⟨hc, hf⟩ := bcell hb))
  exact bodyPost_ret (v := .tuple #[.agg #[.int .i64 0, .string ⟨#[]⟩, .int .i64 0, .int .i64 0], .int .i64 0, .int .i64 q]) (by simp [results, Tryd.results16, go_sem, hc]) rfl ⟨rfl, below4 hB hb (by simp) _ _ _ _⟩
set_option maxRecDepth 100000 in
set_option maxHeartbeats 2000000 in
theorem one_s0a {B : Nat} (s x : ByteArray) (p : Nat) (hp : p ≤ s.size) (hx : s.extract p s.size = x) (h0 : 0 < x.size) (HS : Hid (x.size ≤ 140737488351232)) (w : World) (hB : B ≤ w.heap.size) (HL : Hid (M.wl x = 0)) (h39 : ((x[0].toNat : Int) == 39) = false) (h126 : ((x[0].toNat : Int) == 126) = false) (h34 : ((x[0].toNat : Int) == 34) = false) (HM : Hid (sg x = 0)) (h48 : (x[0].toNat : Int) < 48) :
    Calls Tryd.prog 16 #[.string s, .int .i64 (p : Int)] w (EP 0 ⟨#[]⟩ 0 0 0 5 B w) := by
  go_enter Tryd.func16, Tryd.ntmps16
  go_wp2_with (first
    | (go_at_call 21; (with_reducible refine (M.rword_is HL.out HS.out _).mono ?_); rintro e w' ⟨rfl, rfl⟩)
    | (go_at_call 25; refine (rsign_is HM.out h0 _).mono ?_; rintro e w' ⟨rfl, hb⟩; obtain ⟨hc, hf⟩ := bcell hb))
  exact bodyPost_ret (v := .tuple #[.agg #[.int .i64 0, .string ⟨#[]⟩, .int .i64 0, .int .i64 0], .int .i64 0, .int .i64 5]) (by simp [results, Tryd.results16, go_sem, hc]) rfl ⟨rfl, below4 hB hb (by simp) _ _ _ _⟩
set_option maxRecDepth 100000 in
set_option maxHeartbeats 2000000 in
theorem one_s1a {B : Nat} (s x : ByteArray) (p : Nat) (hp : p ≤ s.size) (hx : s.extract p s.size = x) (h0 : 0 < x.size) (HS : Hid (x.size ≤ 140737488351232)) (w : World) (hB : B ≤ w.heap.size) (HL : Hid (M.wl x = 0)) (h39 : ((x[0].toNat : Int) == 39) = false) (h126 : ((x[0].toNat : Int) == 126) = false) (h34 : ((x[0].toNat : Int) == 34) = false) (m : Nat) (HM : Hid (sg x = m)) (hm : 0 < m) (hmx : m ≤ x.size) (y : ByteArray) (hy : x.extract 0 m = y) (h48 : (x[0].toNat : Int) < 48) :
    Calls Tryd.prog 16 #[.string s, .int .i64 (p : Int)] w (EP 7 y 0 p m 0 B w) := by
  go_enter Tryd.func16, Tryd.ntmps16
  go_wp2_with (first
    | (go_at_call 21; (with_reducible refine (M.rword_is HL.out HS.out _).mono ?_); rintro e w' ⟨rfl, rfl⟩)
    | (go_at_call 25; refine (rsign_is HM.out h0 _).mono ?_; rintro e w' ⟨rfl, hb⟩; obtain ⟨hc, hf⟩ := bcell hb))
  exact bodyPost_ret (v := .tuple #[.agg #[.int .i64 7, .string y, .int .i64 0, .int .i64 (p : Int)], .int .i64 (m : Int), .int .i64 0]) (by simp [results, Tryd.results16, go_sem, hc]) rfl ⟨rfl, below4 hB hb (by simp) _ _ _ _⟩
set_option maxRecDepth 100000 in
set_option maxHeartbeats 2000000 in
theorem one_s0b {B : Nat} (s x : ByteArray) (p : Nat) (hp : p ≤ s.size) (hx : s.extract p s.size = x) (h0 : 0 < x.size) (HS : Hid (x.size ≤ 140737488351232)) (w : World) (hB : B ≤ w.heap.size) (HL : Hid (M.wl x = 0)) (h39 : ((x[0].toNat : Int) == 39) = false) (h126 : ((x[0].toNat : Int) == 126) = false) (h34 : ((x[0].toNat : Int) == 34) = false) (HM : Hid (sg x = 0)) (h57 : (57 : Int) < x[0].toNat) (h48 : (48 : Int) ≤ x[0].toNat) :
    Calls Tryd.prog 16 #[.string s, .int .i64 (p : Int)] w (EP 0 ⟨#[]⟩ 0 0 0 5 B w) := by
  go_enter Tryd.func16, Tryd.ntmps16
  go_wp2_with (first
    | (go_at_call 21; (with_reducible refine (M.rword_is HL.out HS.out _).mono ?_); rintro e w' ⟨rfl, rfl⟩)
    | (go_at_call 25; refine (rsign_is HM.out h0 _).mono ?_; rintro e w' ⟨rfl, hb⟩; obtain ⟨hc, hf⟩ := bcell hb))
  exact bodyPost_ret (v := .tuple #[.agg #[.int .i64 0, .string ⟨#[]⟩, .int .i64 0, .int .i64 0], .int .i64 0, .int .i64 5]) (by simp [results, Tryd.results16, go_sem, hc]) rfl ⟨rfl, below4 hB hb (by simp) _ _ _ _⟩
set_option maxRecDepth 100000 in
set_option maxHeartbeats 2000000 in
theorem one_s1b {B : Nat} (s x : ByteArray) (p : Nat) (hp : p ≤ s.size) (hx : s.extract p s.size = x) (h0 : 0 < x.size) (HS : Hid (x.size ≤ 140737488351232)) (w : World) (hB : B ≤ w.heap.size) (HL : Hid (M.wl x = 0)) (h39 : ((x[0].toNat : Int) == 39) = false) (h126 : ((x[0].toNat : Int) == 126) = false) (h34 : ((x[0].toNat : Int) == 34) = false) (m : Nat) (HM : Hid (sg x = m)) (hm : 0 < m) (hmx : m ≤ x.size) (y : ByteArray) (hy : x.extract 0 m = y) (h57 : (57 : Int) < x[0].toNat) (h48 : (48 : Int) ≤ x[0].toNat) :
    Calls Tryd.prog 16 #[.string s, .int .i64 (p : Int)] w (EP 7 y 0 p m 0 B w) := by
  go_enter Tryd.func16, Tryd.ntmps16
  go_wp2_with (first
    | (go_at_call 21; (with_reducible refine (M.rword_is HL.out HS.out _).mono ?_); rintro e w' ⟨rfl, rfl⟩)
    | (go_at_call 25; refine (rsign_is HM.out h0 _).mono ?_; rintro e w' ⟨rfl, hb⟩; obtain ⟨hc, hf⟩ := bcell hb))
  exact bodyPost_ret (v := .tuple #[.agg #[.int .i64 7, .string y, .int .i64 0, .int .i64 (p : Int)], .int .i64 (m : Int), .int .i64 0]) (by simp [results, Tryd.results16, go_sem, hc]) rfl ⟨rfl, below4 hB hb (by simp) _ _ _ _⟩
end Go.Proofs.YtekbfgjlkmldgaaDoor.L
