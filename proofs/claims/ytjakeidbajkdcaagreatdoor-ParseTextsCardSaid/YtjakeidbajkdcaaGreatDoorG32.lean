/- Joined by program. -/
import Derived.Test.YtjakeidbajkdcaaGreatDoorG30
import Derived.Test.YtjakeidbajkdcaaGreatDoorG27
import Derived.Test.YtjakeidbajkdcaaGreatDoorG31
import Derived.LoopTactic
set_option maxRecDepth 100000
set_option maxHeartbeats 4000000
namespace Go.Proofs.YtjakeidbajkdcaaGreatDoor.L
open Go.RowKit
def EP (k : Int) (t : ByteArray) (n p l x : Int) (B : Nat) (w : World) (e : Ending) (w' : World) : Prop :=
 e = .returned (.tuple #[.agg #[.int .i64 k, .string t, .int .i64 n, .int .i64 p], .int .i64 l, .int .i64 x]) /\ Below B w w'
theorem zyn {B : Nat} (s x : ByteArray) (p : Nat) (hp : p <= s.size) (hx : s.extract p s.size = x) (h0 : 0 < x.size) (HS : Hid (x.size <= 140737488351232)) (w : World) (hB : B <= w.heap.size) (m : Nat) (hm : 0 < m) (hmx : m <= x.size) (y : ByteArray) (hy : x.extract 0 m = y) (HL : Hid (M.wl x = m)) (h20 : 20 < m) :
  Calls Tryz.prog 56 #[.string s, .int .i64 (p : Int)] w (EP 0 ⟨#[]⟩ 0 0 0 7 B w) := by
 go_enter Tryz.func56, Tryz.ntmps56
 go_wp2_with (first | (go_at_call 90; (with_reducible refine (zay HL.out HS.out _).mono ?_); rintro e w' ⟨rfl, rfl⟩))
 exact bodyPost_ret (v := .tuple #[.agg #[.int .i64 0, .string ⟨#[]⟩, .int .i64 0, .int .i64 0], .int .i64 0, .int .i64 7]) (by simp [results, Tryz.results56, go_sem]) rfl ⟨rfl, (br B w).alloc hB _⟩
theorem zzk {B : Nat} (s x : ByteArray) (p : Nat) (hp : p <= s.size) (hx : s.extract p s.size = x) (h0 : 0 < x.size) (HS : Hid (x.size <= 140737488351232)) (w : World) (hB : B <= w.heap.size) (m : Nat) (hm : 0 < m) (hmx : m <= x.size) (y : ByteArray) (hy : x.extract 0 m = y) (HL : Hid (M.wl x = m)) (h20 : m <= 20) (HK : Hid (M.kwB y = true)) :
  Calls Tryz.prog 56 #[.string s, .int .i64 (p : Int)] w (EP 1 y 0 p m 0 B w) := by
 go_enter Tryz.func56, Tryz.ntmps56
 go_wp2_with (first | (go_at_call 90; (with_reducible refine (zay HL.out HS.out _).mono ?_); rintro e w' ⟨rfl, rfl⟩) | (go_at_call 91; refine (M.zdr HK.out _).mono ?_; rintro e w' ⟨rfl, hb⟩; obtain ⟨hc, hf⟩ := bcell hb))
 exact bodyPost_ret (v := .tuple #[.agg #[.int .i64 1, .string y, .int .i64 0, .int .i64 (p : Int)], .int .i64 (m : Int), .int .i64 0]) (by simp [results, Tryz.results56, go_sem, hc]) rfl ⟨rfl, below4 hB hb (by simp) _ _ _ _⟩
theorem zyb {B : Nat} (s x : ByteArray) (p : Nat) (hp : p <= s.size) (hx : s.extract p s.size = x) (h0 : 0 < x.size) (HS : Hid (x.size <= 140737488351232)) (w : World) (hB : B <= w.heap.size) (m : Nat) (hm : 0 < m) (hmx : m <= x.size) (y : ByteArray) (hy : x.extract 0 m = y) (HL : Hid (M.wl x = m)) (h20 : m <= 20) (HK : Hid (M.kwB y = false)) (h65 : (65 : Int) <= x[0].toNat) (h90 : (x[0].toNat : Int) <= 90) :
  Calls Tryz.prog 56 #[.string s, .int .i64 (p : Int)] w (EP 3 y 0 p m 0 B w) := by
 go_enter Tryz.func56, Tryz.ntmps56
 go_wp2_with (first | (go_at_call 90; (with_reducible refine (zay HL.out HS.out _).mono ?_); rintro e w' ⟨rfl, rfl⟩) | (go_at_call 91; refine (M.zdr HK.out _).mono ?_; rintro e w' ⟨rfl, hb⟩; obtain ⟨hc, hf⟩ := bcell hb))
 exact bodyPost_ret (v := .tuple #[.agg #[.int .i64 3, .string y, .int .i64 0, .int .i64 (p : Int)], .int .i64 (m : Int), .int .i64 0]) (by simp [results, Tryz.results56, go_sem, hc]) rfl ⟨rfl, below4 hB hb (by simp) _ _ _ _⟩
theorem zzy {B : Nat} (s x : ByteArray) (p : Nat) (hp : p <= s.size) (hx : s.extract p s.size = x) (h0 : 0 < x.size) (HS : Hid (x.size <= 140737488351232)) (w : World) (hB : B <= w.heap.size) (m : Nat) (hm : 0 < m) (hmx : m <= x.size) (y : ByteArray) (hy : x.extract 0 m = y) (HL : Hid (M.wl x = m)) (h20 : m <= 20) (HK : Hid (M.kwB y = false)) (h65 : (65 : Int) <= x[0].toNat) (h90 : (90 : Int) < x[0].toNat) :
  Calls Tryz.prog 56 #[.string s, .int .i64 (p : Int)] w (EP 2 y 0 p m 0 B w) := by
 go_enter Tryz.func56, Tryz.ntmps56
 go_wp2_with (first | (go_at_call 90; (with_reducible refine (zay HL.out HS.out _).mono ?_); rintro e w' ⟨rfl, rfl⟩) | (go_at_call 91; refine (M.zdr HK.out _).mono ?_; rintro e w' ⟨rfl, hb⟩; obtain ⟨hc, hf⟩ := bcell hb))
 exact bodyPost_ret (v := .tuple #[.agg #[.int .i64 2, .string y, .int .i64 0, .int .i64 (p : Int)], .int .i64 (m : Int), .int .i64 0]) (by simp [results, Tryz.results56, go_sem, hc]) rfl ⟨rfl, below4 hB hb (by simp) _ _ _ _⟩
theorem zz0 {B : Nat} (s x : ByteArray) (p : Nat) (hp : p <= s.size) (hx : s.extract p s.size = x) (h0 : 0 < x.size) (HS : Hid (x.size <= 140737488351232)) (w : World) (hB : B <= w.heap.size) (HL : Hid (M.wl x = 0)) (h39 : ((x[0].toNat : Int) == 39) = true) (z : ByteArray) (hz : x.extract 1 x.size = z) (HZ : Hid (z.size <= 140737488351232)) (HM : Hid (M.wl z = 0)) :
  Calls Tryz.prog 56 #[.string s, .int .i64 (p : Int)] w (EP 0 ⟨#[]⟩ 0 0 0 5 B w) := by
 go_enter Tryz.func56, Tryz.ntmps56
 go_wp2_with (first | (go_at_call 90; (with_reducible refine (zay HL.out HS.out _).mono ?_); rintro e w' ⟨rfl, rfl⟩) | (go_at_call 90; (with_reducible refine (zay HM.out HZ.out _).mono ?_); rintro e w' ⟨rfl, rfl⟩))
 exact bodyPost_ret (v := .tuple #[.agg #[.int .i64 0, .string ⟨#[]⟩, .int .i64 0, .int .i64 0], .int .i64 0, .int .i64 5]) (by simp [results, Tryz.results56, go_sem]) rfl ⟨rfl, (br B w).alloc hB _⟩
theorem z0t {B : Nat} (s x : ByteArray) (p : Nat) (hp : p <= s.size) (hx : s.extract p s.size = x) (h0 : 0 < x.size) (HS : Hid (x.size <= 140737488351232)) (w : World) (hB : B <= w.heap.size) (HL : Hid (M.wl x = 0)) (h39 : ((x[0].toNat : Int) == 39) = true) (z : ByteArray) (hz : x.extract 1 x.size = z) (HZ : Hid (z.size <= 140737488351232)) (m : Nat) (HM : Hid (M.wl z = m)) (hm0 : ((m : Int) == 0) = false) (hx1 : 1 < x.size) (h65 : (65 : Int) <= x[1].toNat) (h90 : (x[1].toNat : Int) <= 90) :
  Calls Tryz.prog 56 #[.string s, .int .i64 (p : Int)] w (EP 0 ⟨#[]⟩ 0 0 0 5 B w) := by
 go_enter Tryz.func56, Tryz.ntmps56
 go_wp2_with (first | (go_at_call 90; (with_reducible refine (zay HL.out HS.out _).mono ?_); rintro e w' ⟨rfl, rfl⟩) | (go_at_call 90; (with_reducible refine (zay HM.out HZ.out _).mono ?_); rintro e w' ⟨rfl, rfl⟩))
 exact bodyPost_ret (v := .tuple #[.agg #[.int .i64 0, .string ⟨#[]⟩, .int .i64 0, .int .i64 0], .int .i64 0, .int .i64 5]) (by simp [results, Tryz.results56, go_sem]) rfl ⟨rfl, (br B w).alloc hB _⟩
theorem zx9 {B : Nat} (s x : ByteArray) (p : Nat) (hp : p <= s.size) (hx : s.extract p s.size = x) (h0 : 0 < x.size) (HS : Hid (x.size <= 140737488351232)) (w : World) (hB : B <= w.heap.size) (HL : Hid (M.wl x = 0)) (h39 : ((x[0].toNat : Int) == 39) = true) (z : ByteArray) (hz : x.extract 1 x.size = z) (HZ : Hid (z.size <= 140737488351232)) (m : Nat) (HM : Hid (M.wl z = m)) (hm0 : ((m : Int) == 0) = false) (hx1 : 1 < x.size) (h65 : (65 : Int) <= x[1].toNat) (h90 : (90 : Int) < x[1].toNat) (h20 : 20 < m) :
  Calls Tryz.prog 56 #[.string s, .int .i64 (p : Int)] w (EP 0 ⟨#[]⟩ 0 0 0 7 B w) := by
 go_enter Tryz.func56, Tryz.ntmps56
 go_wp2_with (first | (go_at_call 90; (with_reducible refine (zay HL.out HS.out _).mono ?_); rintro e w' ⟨rfl, rfl⟩) | (go_at_call 90; (with_reducible refine (zay HM.out HZ.out _).mono ?_); rintro e w' ⟨rfl, rfl⟩))
 exact bodyPost_ret (v := .tuple #[.agg #[.int .i64 0, .string ⟨#[]⟩, .int .i64 0, .int .i64 0], .int .i64 0, .int .i64 7]) (by simp [results, Tryz.results56, go_sem]) rfl ⟨rfl, (br B w).alloc hB _⟩
theorem zzz {B : Nat} (s x : ByteArray) (p : Nat) (hp : p <= s.size) (hx : s.extract p s.size = x) (h0 : 0 < x.size) (HS : Hid (x.size <= 140737488351232)) (w : World) (hB : B <= w.heap.size) (HL : Hid (M.wl x = 0)) (h39 : ((x[0].toNat : Int) == 39) = true) (z : ByteArray) (hz : x.extract 1 x.size = z) (HZ : Hid (z.size <= 140737488351232)) (m : Nat) (HM : Hid (M.wl z = m)) (hm0 : ((m : Int) == 0) = false) (hx1 : 1 < x.size) (h65 : (65 : Int) <= x[1].toNat) (h90 : (90 : Int) < x[1].toNat) (h20 : m <= 20) (hmx : 1 + m <= x.size) (y : ByteArray) (hy : x.extract 1 (1 + m) = y) :
  Calls Tryz.prog 56 #[.string s, .int .i64 (p : Int)] w (EP 6 y 0 p (1 + m) 0 B w) := by
 go_enter Tryz.func56, Tryz.ntmps56
 go_wp2_with (first | (go_at_call 90; (with_reducible refine (zay HL.out HS.out _).mono ?_); rintro e w' ⟨rfl, rfl⟩) | (go_at_call 90; (with_reducible refine (zay HM.out HZ.out _).mono ?_); rintro e w' ⟨rfl, rfl⟩))
 exact bodyPost_ret (v := .tuple #[.agg #[.int .i64 6, .string y, .int .i64 0, .int .i64 (p : Int)], .int .i64 (1 + m : Int), .int .i64 0]) (by simp [results, Tryz.results56, go_sem]) rfl ⟨rfl, (br B w).alloc hB _⟩
theorem zzg {B : Nat} (s x : ByteArray) (p : Nat) (hp : p <= s.size) (hx : s.extract p s.size = x) (h0 : 0 < x.size) (HS : Hid (x.size <= 140737488351232)) (w : World) (hB : B <= w.heap.size) (HL : Hid (M.wl x = 0)) (h39 : ((x[0].toNat : Int) == 39) = false) (h126 : ((x[0].toNat : Int) == 126) = false) (h48 : (x[0].toNat : Int) < 48) (h34 : ((x[0].toNat : Int) == 34) = true) (T : ByteArray) (m : Nat) (HC : Hid (∀ w1, Calls Tryz.prog 93 #[.string x] w1 fun e w' => e = .returned (.tuple #[.string T, .int .i64 (m : Int), .int .i64 0]) /\ Below w1.heap.size w1 w')) :
  Calls Tryz.prog 56 #[.string s, .int .i64 (p : Int)] w (EP 5 T 0 p m 0 B w) := by
 go_enter Tryz.func56, Tryz.ntmps56
 go_wp2_with (first | (go_at_call 90; (with_reducible refine (zay HL.out HS.out _).mono ?_); rintro e w' ⟨rfl, rfl⟩) | (go_at_call 93; refine (HC.out _).mono ?_; rintro e w' ⟨rfl, hb⟩; obtain ⟨hc, hf⟩ := bcell hb))
 exact bodyPost_ret (v := .tuple #[.agg #[.int .i64 5, .string T, .int .i64 0, .int .i64 (p : Int)], .int .i64 (m : Int), .int .i64 0]) (by simp [results, Tryz.results56, go_sem, hc]) rfl ⟨rfl, below4 hB hb (by simp) _ _ _ _⟩
theorem zzq {B : Nat} (s x : ByteArray) (p : Nat) (hp : p <= s.size) (hx : s.extract p s.size = x) (h0 : 0 < x.size) (HS : Hid (x.size <= 140737488351232)) (w : World) (hB : B <= w.heap.size) (HL : Hid (M.wl x = 0)) (h39 : ((x[0].toNat : Int) == 39) = false) (h126 : ((x[0].toNat : Int) == 126) = false) (h48 : (x[0].toNat : Int) < 48) (h34 : ((x[0].toNat : Int) == 34) = true) (T : ByteArray) (m : Nat) (q : Int) (hq : (q != 0) = true) (HC : Hid (∀ w1, Calls Tryz.prog 93 #[.string x] w1 fun e w' => e = .returned (.tuple #[.string T, .int .i64 (m : Int), .int .i64 q]) /\ Below w1.heap.size w1 w')) :
  Calls Tryz.prog 56 #[.string s, .int .i64 (p : Int)] w (EP 0 ⟨#[]⟩ 0 0 0 q B w) := by
 go_enter Tryz.func56, Tryz.ntmps56
 go_wp2_with (first | (go_at_call 90; (with_reducible refine (zay HL.out HS.out _).mono ?_); rintro e w' ⟨rfl, rfl⟩) | (go_at_call 93; refine (HC.out _).mono ?_; rintro e w' ⟨rfl, hb⟩; obtain ⟨hc, hf⟩ := bcell hb))
 exact bodyPost_ret (v := .tuple #[.agg #[.int .i64 0, .string ⟨#[]⟩, .int .i64 0, .int .i64 0], .int .i64 0, .int .i64 q]) (by simp [results, Tryz.results56, go_sem, hc]) rfl ⟨rfl, below4 hB hb (by simp) _ _ _ _⟩
theorem zu1 {B : Nat} (s x : ByteArray) (p : Nat) (hp : p <= s.size) (hx : s.extract p s.size = x) (h0 : 0 < x.size) (HS : Hid (x.size <= 140737488351232)) (w : World) (hB : B <= w.heap.size) (HL : Hid (M.wl x = 0)) (h39 : ((x[0].toNat : Int) == 39) = false) (h126 : ((x[0].toNat : Int) == 126) = false) (h34 : ((x[0].toNat : Int) == 34) = false) (HM : Hid (sg x = 0)) (h48 : (x[0].toNat : Int) < 48) :
  Calls Tryz.prog 56 #[.string s, .int .i64 (p : Int)] w (EP 0 ⟨#[]⟩ 0 0 0 5 B w) := by
 go_enter Tryz.func56, Tryz.ntmps56
 go_wp2_with (first | (go_at_call 90; (with_reducible refine (zay HL.out HS.out _).mono ?_); rintro e w' ⟨rfl, rfl⟩) | (go_at_call 94; refine (zf2 HM.out h0 _).mono ?_; rintro e w' ⟨rfl, hb⟩; obtain ⟨hc, hf⟩ := bcell hb))
 exact bodyPost_ret (v := .tuple #[.agg #[.int .i64 0, .string ⟨#[]⟩, .int .i64 0, .int .i64 0], .int .i64 0, .int .i64 5]) (by simp [results, Tryz.results56, go_sem, hc]) rfl ⟨rfl, below4 hB hb (by simp) _ _ _ _⟩
theorem zwp {B : Nat} (s x : ByteArray) (p : Nat) (hp : p <= s.size) (hx : s.extract p s.size = x) (h0 : 0 < x.size) (HS : Hid (x.size <= 140737488351232)) (w : World) (hB : B <= w.heap.size) (HL : Hid (M.wl x = 0)) (h39 : ((x[0].toNat : Int) == 39) = false) (h126 : ((x[0].toNat : Int) == 126) = false) (h34 : ((x[0].toNat : Int) == 34) = false) (m : Nat) (HM : Hid (sg x = m)) (hm : 0 < m) (hmx : m <= x.size) (y : ByteArray) (hy : x.extract 0 m = y) (h48 : (x[0].toNat : Int) < 48) :
  Calls Tryz.prog 56 #[.string s, .int .i64 (p : Int)] w (EP 7 y 0 p m 0 B w) := by
 go_enter Tryz.func56, Tryz.ntmps56
 go_wp2_with (first | (go_at_call 90; (with_reducible refine (zay HL.out HS.out _).mono ?_); rintro e w' ⟨rfl, rfl⟩) | (go_at_call 94; refine (zf2 HM.out h0 _).mono ?_; rintro e w' ⟨rfl, hb⟩; obtain ⟨hc, hf⟩ := bcell hb))
 exact bodyPost_ret (v := .tuple #[.agg #[.int .i64 7, .string y, .int .i64 0, .int .i64 (p : Int)], .int .i64 (m : Int), .int .i64 0]) (by simp [results, Tryz.results56, go_sem, hc]) rfl ⟨rfl, below4 hB hb (by simp) _ _ _ _⟩
theorem zv5 {B : Nat} (s x : ByteArray) (p : Nat) (hp : p <= s.size) (hx : s.extract p s.size = x) (h0 : 0 < x.size) (HS : Hid (x.size <= 140737488351232)) (w : World) (hB : B <= w.heap.size) (HL : Hid (M.wl x = 0)) (h39 : ((x[0].toNat : Int) == 39) = false) (h126 : ((x[0].toNat : Int) == 126) = false) (h34 : ((x[0].toNat : Int) == 34) = false) (HM : Hid (sg x = 0)) (h57 : (57 : Int) < x[0].toNat) (h48 : (48 : Int) <= x[0].toNat) :
  Calls Tryz.prog 56 #[.string s, .int .i64 (p : Int)] w (EP 0 ⟨#[]⟩ 0 0 0 5 B w) := by
 go_enter Tryz.func56, Tryz.ntmps56
 go_wp2_with (first | (go_at_call 90; (with_reducible refine (zay HL.out HS.out _).mono ?_); rintro e w' ⟨rfl, rfl⟩) | (go_at_call 94; refine (zf2 HM.out h0 _).mono ?_; rintro e w' ⟨rfl, hb⟩; obtain ⟨hc, hf⟩ := bcell hb))
 exact bodyPost_ret (v := .tuple #[.agg #[.int .i64 0, .string ⟨#[]⟩, .int .i64 0, .int .i64 0], .int .i64 0, .int .i64 5]) (by simp [results, Tryz.results56, go_sem, hc]) rfl ⟨rfl, below4 hB hb (by simp) _ _ _ _⟩
theorem zxz {B : Nat} (s x : ByteArray) (p : Nat) (hp : p <= s.size) (hx : s.extract p s.size = x) (h0 : 0 < x.size) (HS : Hid (x.size <= 140737488351232)) (w : World) (hB : B <= w.heap.size) (HL : Hid (M.wl x = 0)) (h39 : ((x[0].toNat : Int) == 39) = false) (h126 : ((x[0].toNat : Int) == 126) = false) (h34 : ((x[0].toNat : Int) == 34) = false) (m : Nat) (HM : Hid (sg x = m)) (hm : 0 < m) (hmx : m <= x.size) (y : ByteArray) (hy : x.extract 0 m = y) (h57 : (57 : Int) < x[0].toNat) (h48 : (48 : Int) <= x[0].toNat) :
  Calls Tryz.prog 56 #[.string s, .int .i64 (p : Int)] w (EP 7 y 0 p m 0 B w) := by
 go_enter Tryz.func56, Tryz.ntmps56
 go_wp2_with (first | (go_at_call 90; (with_reducible refine (zay HL.out HS.out _).mono ?_); rintro e w' ⟨rfl, rfl⟩) | (go_at_call 94; refine (zf2 HM.out h0 _).mono ?_; rintro e w' ⟨rfl, hb⟩; obtain ⟨hc, hf⟩ := bcell hb))
 exact bodyPost_ret (v := .tuple #[.agg #[.int .i64 7, .string y, .int .i64 0, .int .i64 (p : Int)], .int .i64 (m : Int), .int .i64 0]) (by simp [results, Tryz.results56, go_sem, hc]) rfl ⟨rfl, below4 hB hb (by simp) _ _ _ _⟩
open Go.RowKit
theorem zxa {B : Nat} (s x : ByteArray) (p : Nat) (hp : p <= s.size) (hx : s.extract p s.size = x) (h0 : 0 < x.size) (HS : Hid (x.size <= 140737488351232)) (w : World) (hB : B <= w.heap.size) (HL : Hid (M.wl x = 0)) (HSS : x.size <= 140737488351232) (h39 : ((x[0].toNat : Int) == 39) = false) (h48 : (48 : Int) <= x[0].toNat) (h57 : (x[0].toNat : Int) <= 57) (n : Nat) (HN : Hid (n = 1 + dl x 1)) (hn : n <= x.size) (y : ByteArray) (HY : Hid (x.extract 0 n = y)) (v : Int) (HC : Hid (∀ w1, Below B w w1 -> B <= w1.heap.size -> Calls Tryz.prog 92 #[.string y] w1 fun e w' => e = .returned (.tuple #[.int .i64 v, .int .i64 0]) /\ Below w1.heap.size w1 w')) :
  Calls Tryz.prog 56 #[.string s, .int .i64 (p : Int)] w (EP 4 ⟨#[]⟩ v p n 0 B w) := by
 go_enter Tryz.func56, Tryz.ntmps56
 go_wp2_with (first | (go_at_call 90; (with_reducible refine (zay HL.out HS.out _).mono ?_); rintro e w' ⟨rfl, rfl⟩))
 go_loop [13] (fun i => ∃ k : Nat, 1 <= k /\ k <= x.size /\ i = .int .i64 k /\ Hid (n = k + dl x k)) (fun i => x.size - (intOf i).toNat)
 case atStart => exact ⟨1, by omega, by omega, rfl, HN⟩
 case round =>
  obtain ⟨k, hk1, hk, rfl, HK⟩ := hrel
  by_cases hlt : k < x.size
  ·by_cases ha : 48 <= x[k].toNat
   ·have ha' : (48 : Int) <= x[k].toNat := by omega
    by_cases hb' : x[k].toNat <= 57
    ·have hb'' : (x[k].toNat : Int) <= 57 := by omega
     have hg : M.isD x[k].toNat = true := M.zdj.2 ⟨ha, hb'⟩
     have HN' : Hid (n = (k + 1 : Nat) + dl x (k + 1)) := by have := HK.out; rw [zmc hlt hg] at this; exact jj (by omega)
     clear hg ha hb'
     go_wp2_with (fail)
     go_round
     case rel => exact ⟨k + 1, by omega, by omega, by go_num, HN'⟩
     case measure => simp [intOf]; omega
    ·have hb'' : (57 : Int) < x[k].toNat := by omega
     have hg : M.isD x[k].toNat = false := by simp only [M.isD, decide_eq_false_iff_not]; omega
     have hk2 : n = k := by have := HK.out; rw [zc6 hlt hg] at this; omega
     subst hk2
     have ht := HY.out
     clear hg ha hb'
     go_wp2_with (go_at_call 92; refine (HC.out _ ((br _ _).alloc hB _) (by simp; omega)).mono ?_; rintro e w' ⟨rfl, hb⟩; obtain ⟨hc, hf⟩ := bcell hb)
     exact bodyPost_ret (v := .tuple #[.agg #[.int .i64 4, .string ⟨#[]⟩, .int .i64 v, .int .i64 (p : Int)], .int .i64 (n : Int), .int .i64 0]) (by simp [results, Tryz.results56, go_sem, hc]) rfl ⟨rfl, below4 hB hb (by simp) _ _ _ _⟩
   ·have ha' : (x[k].toNat : Int) < 48 := by omega
    have hg : M.isD x[k].toNat = false := by simp only [M.isD, decide_eq_false_iff_not]; omega
    have hk2 : n = k := by have := HK.out; rw [zc6 hlt hg] at this; omega
    subst hk2
    have ht := HY.out
    clear hg ha
    go_wp2_with (go_at_call 92; refine (HC.out _ ((br _ _).alloc hB _) (by simp; omega)).mono ?_; rintro e w' ⟨rfl, hb⟩; obtain ⟨hc, hf⟩ := bcell hb)
    exact bodyPost_ret (v := .tuple #[.agg #[.int .i64 4, .string ⟨#[]⟩, .int .i64 v, .int .i64 (p : Int)], .int .i64 (n : Int), .int .i64 0]) (by simp [results, Tryz.results56, go_sem, hc]) rfl ⟨rfl, below4 hB hb (by simp) _ _ _ _⟩
  ·have hk2 : n = k := by have := HK.out; rw [zha (by omega)] at this; omega
   subst hk2
   have ht := HY.out
   go_wp2_with (go_at_call 92; refine (HC.out _ ((br _ _).alloc hB _) (by simp; omega)).mono ?_; rintro e w' ⟨rfl, hb⟩; obtain ⟨hc, hf⟩ := bcell hb)
   exact bodyPost_ret (v := .tuple #[.agg #[.int .i64 4, .string ⟨#[]⟩, .int .i64 v, .int .i64 (p : Int)], .int .i64 (n : Int), .int .i64 0]) (by simp [results, Tryz.results56, go_sem, hc]) rfl ⟨rfl, below4 hB hb (by simp) _ _ _ _⟩
theorem zv3 {B : Nat} (s x : ByteArray) (p : Nat) (hp : p <= s.size) (hx : s.extract p s.size = x) (h0 : 0 < x.size) (HS : Hid (x.size <= 140737488351232)) (w : World) (hB : B <= w.heap.size) (HL : Hid (M.wl x = 0)) (HSS : x.size <= 140737488351232) (h39 : ((x[0].toNat : Int) == 39) = false) (h48 : (48 : Int) <= x[0].toNat) (h57 : (x[0].toNat : Int) <= 57) (n : Nat) (HN : Hid (n = 1 + dl x 1)) (hn : n <= x.size) (y : ByteArray) (HY : Hid (x.extract 0 n = y)) (v : Int) (q : Int) (hq : (q != 0) = true) (HC : Hid (∀ w1, Below B w w1 -> B <= w1.heap.size -> Calls Tryz.prog 92 #[.string y] w1 fun e w' => e = .returned (.tuple #[.int .i64 v, .int .i64 q]) /\ Below w1.heap.size w1 w')) :
  Calls Tryz.prog 56 #[.string s, .int .i64 (p : Int)] w (EP 0 ⟨#[]⟩ 0 0 0 q B w) := by
 go_enter Tryz.func56, Tryz.ntmps56
 go_wp2_with (first | (go_at_call 90; (with_reducible refine (zay HL.out HS.out _).mono ?_); rintro e w' ⟨rfl, rfl⟩))
 go_loop [13] (fun i => ∃ k : Nat, 1 <= k /\ k <= x.size /\ i = .int .i64 k /\ Hid (n = k + dl x k)) (fun i => x.size - (intOf i).toNat)
 case atStart => exact ⟨1, by omega, by omega, rfl, HN⟩
 case round =>
  obtain ⟨k, hk1, hk, rfl, HK⟩ := hrel
  by_cases hlt : k < x.size
  ·by_cases ha : 48 <= x[k].toNat
   ·have ha' : (48 : Int) <= x[k].toNat := by omega
    by_cases hb' : x[k].toNat <= 57
    ·have hb'' : (x[k].toNat : Int) <= 57 := by omega
     have hg : M.isD x[k].toNat = true := M.zdj.2 ⟨ha, hb'⟩
     have HN' : Hid (n = (k + 1 : Nat) + dl x (k + 1)) := by have := HK.out; rw [zmc hlt hg] at this; exact jj (by omega)
     clear hg ha hb'
     go_wp2_with (fail)
     go_round
     case rel => exact ⟨k + 1, by omega, by omega, by go_num, HN'⟩
     case measure => simp [intOf]; omega
    ·have hb'' : (57 : Int) < x[k].toNat := by omega
     have hg : M.isD x[k].toNat = false := by simp only [M.isD, decide_eq_false_iff_not]; omega
     have hk2 : n = k := by have := HK.out; rw [zc6 hlt hg] at this; omega
     subst hk2
     have ht := HY.out
     clear hg ha hb'
     go_wp2_with (go_at_call 92; refine (HC.out _ ((br _ _).alloc hB _) (by simp; omega)).mono ?_; rintro e w' ⟨rfl, hb⟩; obtain ⟨hc, hf⟩ := bcell hb)
     exact bodyPost_ret (v := .tuple #[.agg #[.int .i64 0, .string ⟨#[]⟩, .int .i64 0, .int .i64 0], .int .i64 0, .int .i64 q]) (by simp [results, Tryz.results56, go_sem, hc]) rfl ⟨rfl, below4 hB hb (by simp) _ _ _ _⟩
   ·have ha' : (x[k].toNat : Int) < 48 := by omega
    have hg : M.isD x[k].toNat = false := by simp only [M.isD, decide_eq_false_iff_not]; omega
    have hk2 : n = k := by have := HK.out; rw [zc6 hlt hg] at this; omega
    subst hk2
    have ht := HY.out
    clear hg ha
    go_wp2_with (go_at_call 92; refine (HC.out _ ((br _ _).alloc hB _) (by simp; omega)).mono ?_; rintro e w' ⟨rfl, hb⟩; obtain ⟨hc, hf⟩ := bcell hb)
    exact bodyPost_ret (v := .tuple #[.agg #[.int .i64 0, .string ⟨#[]⟩, .int .i64 0, .int .i64 0], .int .i64 0, .int .i64 q]) (by simp [results, Tryz.results56, go_sem, hc]) rfl ⟨rfl, below4 hB hb (by simp) _ _ _ _⟩
  ·have hk2 : n = k := by have := HK.out; rw [zha (by omega)] at this; omega
   subst hk2
   have ht := HY.out
   go_wp2_with (go_at_call 92; refine (HC.out _ ((br _ _).alloc hB _) (by simp; omega)).mono ?_; rintro e w' ⟨rfl, hb⟩; obtain ⟨hc, hf⟩ := bcell hb)
   exact bodyPost_ret (v := .tuple #[.agg #[.int .i64 0, .string ⟨#[]⟩, .int .i64 0, .int .i64 0], .int .i64 0, .int .i64 q]) (by simp [results, Tryz.results56, go_sem, hc]) rfl ⟨rfl, below4 hB hb (by simp) _ _ _ _⟩
theorem zww {B : Nat} (s x : ByteArray) (p : Nat) (hp : p <= s.size) (hx : s.extract p s.size = x) (h0 : 0 < x.size) (HS : Hid (x.size <= 140737488351232)) (w : World) (hB : B <= w.heap.size) (HL : Hid (M.wl x = 0)) (HSS : x.size <= 140737488351232) (h39 : ((x[0].toNat : Int) == 39) = false) (h48 : (48 : Int) <= x[0].toNat) (h57 : (57 : Int) < x[0].toNat) (h126 : ((x[0].toNat : Int) == 126) = true) (n : Nat) (HN : Hid (n = 1 + dl x 1)) (hn : n <= x.size) (y : ByteArray) (HY : Hid (x.extract 0 n = y)) (v : Int) (HC : Hid (∀ w1, Below B w w1 -> B <= w1.heap.size -> Calls Tryz.prog 92 #[.string y] w1 fun e w' => e = .returned (.tuple #[.int .i64 v, .int .i64 0]) /\ Below w1.heap.size w1 w')) :
  Calls Tryz.prog 56 #[.string s, .int .i64 (p : Int)] w (EP 4 ⟨#[]⟩ v p n 0 B w) := by
 go_enter Tryz.func56, Tryz.ntmps56
 go_wp2_with (first | (go_at_call 90; (with_reducible refine (zay HL.out HS.out _).mono ?_); rintro e w' ⟨rfl, rfl⟩))
 go_loop [13] (fun i => ∃ k : Nat, 1 <= k /\ k <= x.size /\ i = .int .i64 k /\ Hid (n = k + dl x k)) (fun i => x.size - (intOf i).toNat)
 case atStart => exact ⟨1, by omega, by omega, rfl, HN⟩
 case round =>
  obtain ⟨k, hk1, hk, rfl, HK⟩ := hrel
  by_cases hlt : k < x.size
  ·by_cases ha : 48 <= x[k].toNat
   ·have ha' : (48 : Int) <= x[k].toNat := by omega
    by_cases hb' : x[k].toNat <= 57
    ·have hb'' : (x[k].toNat : Int) <= 57 := by omega
     have hg : M.isD x[k].toNat = true := M.zdj.2 ⟨ha, hb'⟩
     have HN' : Hid (n = (k + 1 : Nat) + dl x (k + 1)) := by have := HK.out; rw [zmc hlt hg] at this; exact jj (by omega)
     clear hg ha hb'
     go_wp2_with (fail)
     go_round
     case rel => exact ⟨k + 1, by omega, by omega, by go_num, HN'⟩
     case measure => simp [intOf]; omega
    ·have hb'' : (57 : Int) < x[k].toNat := by omega
     have hg : M.isD x[k].toNat = false := by simp only [M.isD, decide_eq_false_iff_not]; omega
     have hk2 : n = k := by have := HK.out; rw [zc6 hlt hg] at this; omega
     subst hk2
     have ht := HY.out
     clear hg ha hb'
     go_wp2_with (go_at_call 92; refine (HC.out _ ((br _ _).alloc hB _) (by simp; omega)).mono ?_; rintro e w' ⟨rfl, hb⟩; obtain ⟨hc, hf⟩ := bcell hb)
     exact bodyPost_ret (v := .tuple #[.agg #[.int .i64 4, .string ⟨#[]⟩, .int .i64 v, .int .i64 (p : Int)], .int .i64 (n : Int), .int .i64 0]) (by simp [results, Tryz.results56, go_sem, hc]) rfl ⟨rfl, below4 hB hb (by simp) _ _ _ _⟩
   ·have ha' : (x[k].toNat : Int) < 48 := by omega
    have hg : M.isD x[k].toNat = false := by simp only [M.isD, decide_eq_false_iff_not]; omega
    have hk2 : n = k := by have := HK.out; rw [zc6 hlt hg] at this; omega
    subst hk2
    have ht := HY.out
    clear hg ha
    go_wp2_with (go_at_call 92; refine (HC.out _ ((br _ _).alloc hB _) (by simp; omega)).mono ?_; rintro e w' ⟨rfl, hb⟩; obtain ⟨hc, hf⟩ := bcell hb)
    exact bodyPost_ret (v := .tuple #[.agg #[.int .i64 4, .string ⟨#[]⟩, .int .i64 v, .int .i64 (p : Int)], .int .i64 (n : Int), .int .i64 0]) (by simp [results, Tryz.results56, go_sem, hc]) rfl ⟨rfl, below4 hB hb (by simp) _ _ _ _⟩
  ·have hk2 : n = k := by have := HK.out; rw [zha (by omega)] at this; omega
   subst hk2
   have ht := HY.out
   go_wp2_with (go_at_call 92; refine (HC.out _ ((br _ _).alloc hB _) (by simp; omega)).mono ?_; rintro e w' ⟨rfl, hb⟩; obtain ⟨hc, hf⟩ := bcell hb)
   exact bodyPost_ret (v := .tuple #[.agg #[.int .i64 4, .string ⟨#[]⟩, .int .i64 v, .int .i64 (p : Int)], .int .i64 (n : Int), .int .i64 0]) (by simp [results, Tryz.results56, go_sem, hc]) rfl ⟨rfl, below4 hB hb (by simp) _ _ _ _⟩
theorem zuz {B : Nat} (s x : ByteArray) (p : Nat) (hp : p <= s.size) (hx : s.extract p s.size = x) (h0 : 0 < x.size) (HS : Hid (x.size <= 140737488351232)) (w : World) (hB : B <= w.heap.size) (HL : Hid (M.wl x = 0)) (HSS : x.size <= 140737488351232) (h39 : ((x[0].toNat : Int) == 39) = false) (h48 : (48 : Int) <= x[0].toNat) (h57 : (57 : Int) < x[0].toNat) (h126 : ((x[0].toNat : Int) == 126) = true) (n : Nat) (HN : Hid (n = 1 + dl x 1)) (hn : n <= x.size) (y : ByteArray) (HY : Hid (x.extract 0 n = y)) (v : Int) (q : Int) (hq : (q != 0) = true) (HC : Hid (∀ w1, Below B w w1 -> B <= w1.heap.size -> Calls Tryz.prog 92 #[.string y] w1 fun e w' => e = .returned (.tuple #[.int .i64 v, .int .i64 q]) /\ Below w1.heap.size w1 w')) :
  Calls Tryz.prog 56 #[.string s, .int .i64 (p : Int)] w (EP 0 ⟨#[]⟩ 0 0 0 q B w) := by
 go_enter Tryz.func56, Tryz.ntmps56
 go_wp2_with (first | (go_at_call 90; (with_reducible refine (zay HL.out HS.out _).mono ?_); rintro e w' ⟨rfl, rfl⟩))
 go_loop [13] (fun i => ∃ k : Nat, 1 <= k /\ k <= x.size /\ i = .int .i64 k /\ Hid (n = k + dl x k)) (fun i => x.size - (intOf i).toNat)
 case atStart => exact ⟨1, by omega, by omega, rfl, HN⟩
 case round =>
  obtain ⟨k, hk1, hk, rfl, HK⟩ := hrel
  by_cases hlt : k < x.size
  ·by_cases ha : 48 <= x[k].toNat
   ·have ha' : (48 : Int) <= x[k].toNat := by omega
    by_cases hb' : x[k].toNat <= 57
    ·have hb'' : (x[k].toNat : Int) <= 57 := by omega
     have hg : M.isD x[k].toNat = true := M.zdj.2 ⟨ha, hb'⟩
     have HN' : Hid (n = (k + 1 : Nat) + dl x (k + 1)) := by have := HK.out; rw [zmc hlt hg] at this; exact jj (by omega)
     clear hg ha hb'
     go_wp2_with (fail)
     go_round
     case rel => exact ⟨k + 1, by omega, by omega, by go_num, HN'⟩
     case measure => simp [intOf]; omega
    ·have hb'' : (57 : Int) < x[k].toNat := by omega
     have hg : M.isD x[k].toNat = false := by simp only [M.isD, decide_eq_false_iff_not]; omega
     have hk2 : n = k := by have := HK.out; rw [zc6 hlt hg] at this; omega
     subst hk2
     have ht := HY.out
     clear hg ha hb'
     go_wp2_with (go_at_call 92; refine (HC.out _ ((br _ _).alloc hB _) (by simp; omega)).mono ?_; rintro e w' ⟨rfl, hb⟩; obtain ⟨hc, hf⟩ := bcell hb)
     exact bodyPost_ret (v := .tuple #[.agg #[.int .i64 0, .string ⟨#[]⟩, .int .i64 0, .int .i64 0], .int .i64 0, .int .i64 q]) (by simp [results, Tryz.results56, go_sem, hc]) rfl ⟨rfl, below4 hB hb (by simp) _ _ _ _⟩
   ·have ha' : (x[k].toNat : Int) < 48 := by omega
    have hg : M.isD x[k].toNat = false := by simp only [M.isD, decide_eq_false_iff_not]; omega
    have hk2 : n = k := by have := HK.out; rw [zc6 hlt hg] at this; omega
    subst hk2
    have ht := HY.out
    clear hg ha
    go_wp2_with (go_at_call 92; refine (HC.out _ ((br _ _).alloc hB _) (by simp; omega)).mono ?_; rintro e w' ⟨rfl, hb⟩; obtain ⟨hc, hf⟩ := bcell hb)
    exact bodyPost_ret (v := .tuple #[.agg #[.int .i64 0, .string ⟨#[]⟩, .int .i64 0, .int .i64 0], .int .i64 0, .int .i64 q]) (by simp [results, Tryz.results56, go_sem, hc]) rfl ⟨rfl, below4 hB hb (by simp) _ _ _ _⟩
  ·have hk2 : n = k := by have := HK.out; rw [zha (by omega)] at this; omega
   subst hk2
   have ht := HY.out
   go_wp2_with (go_at_call 92; refine (HC.out _ ((br _ _).alloc hB _) (by simp; omega)).mono ?_; rintro e w' ⟨rfl, hb⟩; obtain ⟨hc, hf⟩ := bcell hb)
   exact bodyPost_ret (v := .tuple #[.agg #[.int .i64 0, .string ⟨#[]⟩, .int .i64 0, .int .i64 0], .int .i64 0, .int .i64 q]) (by simp [results, Tryz.results56, go_sem, hc]) rfl ⟨rfl, below4 hB hb (by simp) _ _ _ _⟩
open Go.RowKit
def posOf (r : R) (p : Nat) : Int := if r.e = 0 then (p : Int) else 0
theorem zl0 {x : ByteArray} (h : 0 < M.wl x) : (M.begW (M.fst x) || M.begT (M.fst x)) = true := by
 by_cases h' : (M.begW (M.fst x) || M.begT (M.fst x)) = true
 ·exact h'
 ·rw [M.wl, if_neg (fun z => h' z.2)] at h; omega
theorem zg8 {n : Nat} (h : M.begW n = true) : 97 <= n ∨ n = 95 := by simp only [M.begW, decide_eq_true_eq] at h; omega
theorem zgz {n : Nat} (h : M.begT n = true) : 65 <= n /\ n <= 90 := by simpa only [M.begT, decide_eq_true_eq] using h
theorem zti {B : Nat} (s x : ByteArray) (p : Nat) (hs : s.size <= 140737488351232) (hp : p < s.size) (hx : s.extract p s.size = x) (w : World) (hB : B <= w.heap.size) :
  Calls Tryz.prog 56 #[.string s, .int .i64 (p : Int)] w (EP (tok x).k (tok x).t (tok x).n (posOf (tok x) p) (tok x).long (tok x).e B w) := by
 have hxs : x.size = s.size - p := by rw [<- hx, size_extract]; omega
 have h0 : 0 < x.size := by omega
 have HS : Hid (x.size <= 140737488351232) := jj (by omega)
 have hf := M.zc5 h0
 have hle := M.zj8 x
 have hp' : p <= s.size := by omega
 rw [tok]
 by_cases h1 : 0 < M.wl x
 ·rw [if_pos h1]
  have hsz : (x.extract 0 (M.wl x)).size = M.wl x := by rw [size_extract]; omega
  have hbw := zl0 h1
  have hfy : M.fst (x.extract 0 (M.wl x)) = M.fst x := by
   rw [M.zc5 (by omega), M.zc5 h0, ByteArray.getElem_extract]
  rw [wordR, hsz, hfy]
  by_cases h20 : 20 < M.wl x
  ·have hk : ¬ M.kwB (x.extract 0 (M.wl x)) = true := fun h => by have := zr2 h; omega
   rw [if_neg hk, if_pos h20]
   exact zyn s x p hp' hx h0 HS w hB _ h1 hle _ rfl (jj rfl) h20
  ·by_cases hk : M.kwB (x.extract 0 (M.wl x)) = true
   ·rw [if_pos hk]
    exact zzk s x p hp' hx h0 HS w hB _ h1 hle _ rfl (jj rfl) (by omega) (jj hk)
   ·rw [if_neg hk, if_neg h20]
    have hk' : M.kwB (x.extract 0 (M.wl x)) = false := by simpa using hk
    by_cases ht : M.begT (M.fst x) = true
    ·rw [if_pos ht]
     have := zgz ht
     exact zyb s x p hp' hx h0 HS w hB _ h1 hle _ rfl (jj rfl) (by omega) (jj hk') (by omega) (by omega)
    ·rw [if_neg ht]
     have ht' : M.begT (M.fst x) = false := by simpa using ht
     rw [ht', Bool.or_false] at hbw
     have := zg8 hbw
     exact zzy s x p hp' hx h0 HS w hB _ h1 hle _ rfl (jj rfl) (by omega) (jj hk') (by omega) (by omega)
 ·rw [if_neg h1]
  have HL : Hid (M.wl x = 0) := jj (by omega)
  by_cases h39 : M.fst x = 39
  ·rw [if_pos h39]
   obtain ⟨z, hz⟩ : ∃ z, x.extract 1 x.size = z := ⟨_, rfl⟩
   have hzs : z.size = x.size - 1 := by rw [<- hz, size_extract]; omega
   have hzl := M.zj8 z
   have HZ : Hid (z.size <= 140737488351232) := jj (by omega)
   have q39 : ((x[0].toNat : Int) == 39) = true := eqb (b := 39) (by rw [<- hf]; exact h39)
   rw [varR, hz]
   by_cases hm : M.wl z = 0
   ·rw [if_pos (Or.inl hm)]
    exact zz0 s x p hp' hx h0 HS w hB HL q39 z hz HZ (jj hm)
   ·have hx1 : 1 < x.size := by omega
    have hz0 : 0 < z.size := by omega
    have hfz : M.fst z = x[1].toNat := by
     rw [M.zc5 hz0]
     subst hz
     rw [ByteArray.getElem_extract]
    have hbz := zl0 (x := z) (by omega)
    have hm0 : ((M.wl z : Int) == 0) = false := by simpa using hm
    by_cases ht : M.begT (M.fst z) = true
    ·rw [if_pos (Or.inr ht)]
     have := zgz ht
     exact z0t s x p hp' hx h0 HS w hB HL q39 z hz HZ _ (jj rfl) hm0 hx1 (by omega) (by omega)
    ·rw [if_neg (by rintro (h | h); exact hm h; exact ht h)]
     have ht' : M.begT (M.fst z) = false := by simpa using ht
     rw [ht', Bool.or_false] at hbz
     have := zg8 hbz
     by_cases h20 : 20 < M.wl z
     ·rw [if_pos h20]
      exact zx9 s x p hp' hx h0 HS w hB HL q39 z hz HZ _ (jj rfl) hm0 hx1 (by omega) (by omega) h20
     ·rw [if_neg h20]
      exact zzz s x p hp' hx h0 HS w hB HL q39 z hz HZ _ (jj rfl) hm0 hx1 (by omega) (by omega) (by omega) (by omega) _ rfl
  ·rw [if_neg h39]
   have n39 : ((x[0].toNat : Int) == 39) = false := neb (b := 39) (by rw [<- hf]; exact h39)
   by_cases hd : M.fst x = 126 ∨ M.isD (M.fst x) = true
   ·rw [if_pos hd]
    have hl := zwj x 1 h0
    obtain ⟨y, hy⟩ : ∃ y, x.extract 0 (1 + dl x 1) = y := ⟨_, rfl⟩
    have hys : y.size = 1 + dl x 1 := by rw [<- hy, size_extract]; omega
    rw [hy]
    have HC : Hid (∀ w1, Below B w w1 -> B <= w1.heap.size -> Calls Tryz.prog 92 #[.string y] w1 fun e w' => e = .returned (.tuple #[.int .i64 (W.pv y.data.toList), .int .i64 (W.pe y.data.toList)]) /\ Below w1.heap.size w1 w') :=
     jj fun w1 _ _ => W.zfe y (by omega) w1
    rw [numR, hys]
    generalize W.pv y.data.toList = v at *
    generalize W.pe y.data.toList = q at *
    by_cases hq : q = 0
    ·subst hq
     rw [if_pos rfl]
     by_cases hdd : M.isD (M.fst x) = true
     ·have := M.zdj.1 hdd
      exact zxa s x p hp' hx h0 HS w hB HL HS.out n39 (by omega) (by omega) _ (jj rfl) hl y (jj hy) v HC
     ·have h126 : M.fst x = 126 := by rcases hd with h | h; exact h; exact absurd h hdd
      exact zww s x p hp' hx h0 HS w hB HL HS.out n39 (by omega) (by omega) (eqb (b := 126) (by rw [<- hf]; exact h126)) _ (jj rfl) hl y (jj hy) v HC
    ·rw [if_neg hq]
     have e : posOf (bad q) p = 0 := by rw [posOf, if_neg (show ¬ (bad q).e = 0 from hq)]
     rw [e]
     have hq' : (q != 0) = true := by simpa using hq
     by_cases hdd : M.isD (M.fst x) = true
     ·have := M.zdj.1 hdd
      exact zv3 s x p hp' hx h0 HS w hB HL HS.out n39 (by omega) (by omega) _ (jj rfl) hl y (jj hy) v q hq' HC
     ·have h126 : M.fst x = 126 := by rcases hd with h | h; exact h; exact absurd h hdd
      exact zuz s x p hp' hx h0 HS w hB HL HS.out n39 (by omega) (by omega) (eqb (b := 126) (by rw [<- hf]; exact h126)) _ (jj rfl) hl y (jj hy) v q hq' HC
   ·rw [if_neg hd]
    have h126 : M.fst x ≠ 126 := fun h => hd (Or.inl h)
    have hnd : ¬ (48 <= M.fst x /\ M.fst x <= 57) := fun h => hd (Or.inr (M.zdj.2 h))
    have n126 : ((x[0].toNat : Int) == 126) = false := neb (b := 126) (by rw [<- hf]; exact h126)
    by_cases h34 : M.fst x = 34
    ·rw [if_pos h34]
     have q34 : ((x[0].toNat : Int) == 34) = true := eqb (b := 34) (by rw [<- hf]; exact h34)
     have HC : Hid (∀ w1 : World, Calls Tryz.prog 93 #[.string x] w1 (Q.TkPost (Q.tq x.data.toList) w1.heap.size w1)) := jj fun w1 => Q.zqp x (by omega) w1 (lrf _)
     rw [strR]
     unfold Q.TkPost Q.TkEnd at HC
     generalize Q.tT (Q.tq x.data.toList) = T at *
     generalize Q.tN (Q.tq x.data.toList) = m at *
     generalize Q.tE (Q.tq x.data.toList) = q at *
     by_cases hq : q = 0
     ·subst hq
      rw [if_pos rfl]
      exact zzg s x p hp' hx h0 HS w hB HL n39 n126 (by omega) q34 _ m HC
     ·rw [if_neg hq]
      have e : posOf (bad q) p = 0 := by rw [posOf, if_neg (show ¬ (bad q).e = 0 from hq)]
      rw [e]
      exact zzq s x p hp' hx h0 HS w hB HL n39 n126 (by omega) q34 _ m q (by simpa using hq) HC
    ·rw [if_neg h34]
     have n34 : ((x[0].toNat : Int) == 34) = false := neb (b := 34) (by rw [<- hf]; exact h34)
     have hsg : sg x <= x.size := by
      rcases Nat.eq_zero_or_pos (sg x) with h | h
      ·omega
      ·unfold sg at h ⊢
       split
       ·rename_i h2
        unfold two at h2
        rw [Bool.or_eq_true] at h2
        have := M.size_len x
        rcases h2 with h2 | h2 <;> (have := zky h2; simp at this; omega)
       ·split <;> omega
     rw [signR]
     by_cases hz : sg x = 0
     ·rw [if_pos hz]
      by_cases h48 : M.fst x < 48
      ·exact zu1 s x p hp' hx h0 HS w hB HL n39 n126 n34 (jj hz) (by omega)
      ·exact zv5 s x p hp' hx h0 HS w hB HL n39 n126 n34 (jj hz) (by omega) (by omega)
     ·rw [if_neg hz]
      by_cases h48 : M.fst x < 48
      ·exact zwp s x p hp' hx h0 HS w hB HL n39 n126 n34 _ (jj rfl) (by omega) hsg _ rfl (by omega)
      ·exact zxz s x p hp' hx h0 HS w hB HL n39 n126 n34 _ (jj rfl) (by omega) hsg _ rfl (by omega) (by omega)
end Go.Proofs.YtjakeidbajkdcaaGreatDoor.L
