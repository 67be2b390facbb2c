/- The document's own reading, way by way: of a number's text the number and no error, of any other text 0 and the text's error; the world is as it was. -/
import Derived.Test.YtekbfgjlkmldgaaDoorWText2
import Derived.Test.YtekbfgjlkmldgaaDoorWParseAny
namespace Go.Proofs.YtekbfgjlkmldgaaDoor.W
open Go.RowKit
theorem rp_long {B : Nat} (s : ByteArray) (hs : s.size ≤ 140737488351232) (h0 : 0 < s.size) (hT : ((s[0].toNat : Int) == 126) = false) (h19 : 19 < s.size) (HN : Hid (∀ m, InR m → s.data.toList ≠ wtext m)) (w : World) :
    Calls Tryd.prog 23 #[.string s] w (Read s B w) := by
  go_enter Tryd.func23, Tryd.ntmps23
  go_wp2
  go_ret2
  exact Read.no HN.out (Below.refl _ _)
theorem rp_zero {B : Nat} (s : ByteArray) (hs : s.size ≤ 140737488351232) (h0 : 0 < s.size) (hT : ((s[0].toNat : Int) == 126) = false) (h19 : s.size ≤ 19) (h1 : 1 < s.size) (hZ : ((s[0].toNat : Int) == 48) = true) (HN : Hid (∀ m, InR m → s.data.toList ≠ wtext m)) (w : World) :
    Calls Tryd.prog 23 #[.string s] w (Read s B w) := by
  go_enter Tryd.func23, Tryd.ntmps23
  go_wp2
  go_ret2
  exact Read.no HN.out (Below.refl _ _)
theorem rp_snone {B : Nat} (s : ByteArray) (hs : s.size ≤ 140737488351232) (h0 : 0 < s.size) (hT : ((s[0].toNat : Int) == 126) = true) (t : ByteArray) (hx : s.extract 1 s.size = t) (hn : t.size < 1) (HN : Hid (∀ m, InR m → s.data.toList ≠ wtext m)) (w : World) :
    Calls Tryd.prog 23 #[.string s] w (Read s B w) := by
  go_enter Tryd.func23, Tryd.ntmps23
  go_wp2
  go_ret2
  exact Read.no HN.out (Below.refl _ _)
theorem rp_slong {B : Nat} (s : ByteArray) (hs : s.size ≤ 140737488351232) (h0 : 0 < s.size) (hT : ((s[0].toNat : Int) == 126) = true) (t : ByteArray) (hx : s.extract 1 s.size = t) (h19 : 19 < t.size) (HN : Hid (∀ m, InR m → s.data.toList ≠ wtext m)) (w : World) :
    Calls Tryd.prog 23 #[.string s] w (Read s B w) := by
  go_enter Tryd.func23, Tryd.ntmps23
  go_wp2
  go_ret2
  exact Read.no HN.out (Below.refl _ _)
theorem rp_szero {B : Nat} (s : ByteArray) (hs : s.size ≤ 140737488351232) (h0 : 0 < s.size) (hT : ((s[0].toNat : Int) == 126) = true) (t : ByteArray) (hx : s.extract 1 s.size = t) (h19 : t.size ≤ 19) (h1 : 1 < t.size) (hZ : ((t[0].toNat : Int) == 48) = true) (HN : Hid (∀ m, InR m → s.data.toList ≠ wtext m)) (w : World) :
    Calls Tryd.prog 23 #[.string s] w (Read s B w) := by
  go_enter Tryd.func23, Tryd.ntmps23
  go_wp2
  go_ret2
  exact Read.no HN.out (Below.refl _ _)
theorem rp_sone {B : Nat} (s : ByteArray) (hs : s.size ≤ 140737488351232) (h0 : 0 < s.size) (hT : ((s[0].toNat : Int) == 126) = true) (t : ByteArray) (hx : s.extract 1 s.size = t) (hp : 0 < t.size) (h1 : t.size ≤ 1) (hZ : (t.toList == [48]) = true) (HN : Hid (∀ m, InR m → s.data.toList ≠ wtext m)) (w : World) :
    Calls Tryd.prog 23 #[.string s] w (Read s B w) := by
  go_enter Tryd.func23, Tryd.ntmps23
  go_wp2
  go_ret2
  exact Read.no HN.out (Below.refl _ _)
theorem rp_empty {B : Nat} (w : World) : Calls Tryd.prog 23 #[.string ⟨#[]⟩] w (Read ⟨#[]⟩ B w) := by
  go_enter Tryd.func23, Tryd.ntmps23
  go_wp2
  go_ret2
  exact Read.no no_empty (Below.refl _ _)
theorem dig_bound {l : List UInt8} (h : AllDig l) (hl : l.length ≤ 18) : dval l ≤ 999999999999999999 := by
  have h1 := dval_lt h
  have h2 : 10 ^ l.length ≤ 10 ^ 18 := Nat.pow_le_pow_right (by omega) hl
  omega
theorem dig_bound19 {l : List UInt8} (h : AllDig l) (hl : l.length ≤ 19) : dval l ≤ 9999999999999999999 := by
  have h1 := dval_lt h
  have h2 : 10 ^ l.length ≤ 10 ^ 19 := Nat.pow_le_pow_right (by omega) hl
  omega
theorem u64_back (v : Int) (h0 : 0 ≤ v) (h1 : v ≤ 9223372036854775808) : wrap64 (IntKind.u64.wrap (-v)) = -v := by
  simp only [wrap64, IntKind.wrap_u64]; omega
/-- What stands at the head of a round: v is what the first k digits are worth. -/
def At (t : ByteArray) (k v : Nat) : Prop := AllDig (t.data.toList.take k) ∧ v = dval (t.data.toList.take k)
theorem At.start (t : ByteArray) : At t 0 0 := ⟨by intro c hc; simp at hc, by rw [List.take_zero, dval_nil]⟩
theorem At.bound {t : ByteArray} {k v : Nat} (h : At t k v) (hk : k ≤ 18) : v ≤ 999999999999999999 := by
  rw [h.2]; exact dig_bound h.1 (by rw [List.length_take]; omega)
theorem At.bound19 {t : ByteArray} {k v : Nat} (h : At t k v) (hk : k ≤ 19) : v ≤ 9999999999999999999 := by
  rw [h.2]; exact dig_bound19 h.1 (by rw [List.length_take]; omega)
theorem At.step {t : ByteArray} {k v : Nat} (h : At t k v) (hk : k < t.size) (h1 : 48 ≤ (t[k]).toNat) (h2 : (t[k]).toNat ≤ 57) : At t (k + 1) (10 * v + (t[k].toNat - 48)) := by
  refine ⟨?_, ?_⟩
  · rw [take_snoc t k hk]; exact h.1.snoc h1 h2
  · rw [take_snoc t k hk, dval_snoc, h.2]
theorem At.all {t : ByteArray} {k v : Nat} (h : At t k v) (hk : ¬ k < t.size) : AllDig t.data.toList ∧ v = dval t.data.toList := by
  have := h; unfold At at this; rwa [take_all t hk] at this
set_option maxHeartbeats 1000000 in
theorem rp_one {B : Nat} (s : ByteArray) (hs : s.size ≤ 140737488351232) (h0 : 0 < s.size) (hT : ((s[0].toNat : Int) == 126) = false) (h1 : s.size ≤ 1) (HH : Hid (s.data.toList.head? ≠ some 126)) (HZ : Hid (s.data.toList.length ≤ 1 ∨ ∀ c, s.data.toList.head? = some c → c.toNat ≠ 48)) (w : World) :
    Calls Tryd.prog 23 #[.string s] w (Read s B w) := by
  go_enter Tryd.func23, Tryd.ntmps23
  go_wp2
  go_loop [6, 7] (fun n i => ∃ k v : Nat, k ≤ s.size ∧ i = .int .i64 k ∧ n = .int .u64 v ∧ Hid (At s k v)) (fun _ i => s.size - (intOf i).toNat)
  case atStart => exact ⟨0, 0, Nat.zero_le _, rfl, rfl, Lib.hid (At.start s)⟩
  case round =>
    obtain ⟨k, v, hk, rfl, rfl, HA⟩ := hrel
    by_cases hlt : k < s.size
    · have hvb := HA.out.bound (by omega)
      by_cases hdig : 48 ≤ (s[k]'hlt).toNat ∧ (s[k]'hlt).toNat ≤ 57
      · obtain ⟨hd1, hd2⟩ := hdig
        have HS := Lib.hid (HA.out.step hlt hd1 hd2)
        go_wp2
        go_round
        case rel => exact ⟨k + 1, 10 * v + (s[k].toNat - 48), by omega, by go_num, by go_num, Lib.hid HS.out⟩
        case measure => simp [intOf]; omega
      · have HB := Lib.hid (no_plain HH.out (bad_at s k hlt hdig))
        by_cases hlo : (s[k]'hlt).toNat < 48
        · go_wp2
          go_ret2
          exact Read.no HB.out (Below.refl _ _)
        · have hhi : 57 < (s[k]'hlt).toNat := by omega
          go_wp2
          go_ret2
          exact Read.no HB.out (Below.refl _ _)
    · have hvb := HA.out.bound19 (by omega)
      have HE := Lib.hid (HA.out.all hlt)
      by_cases hbig : 9223372036854775807 < v
      · have HN := Lib.hid (big_plain HH.out (by rw [← HE.out.2]; exact hbig))
        by_cases hmore : (9223372036854775808 : Int) < (v : Int)
        · go_wp2
          go_ret2
          exact Read.no HN.out (Below.refl _ _)
        · have heq : ((v : Int) == 9223372036854775808) = true := by simpa using (by omega : (v : Int) = 9223372036854775808)
          go_wp2
          go_ret2
          exact Read.no HN.out (Below.refl _ _)
      · have hless : ¬ (9223372036854775808 : Int) < (v : Int) := by omega
        have hne : ((v : Int) == 9223372036854775808) = false := by simpa using (by omega : ¬ (v : Int) = 9223372036854775808)
        have hup : (v : Int) ≤ 9223372036854775807 := by omega
        have HY := Lib.hid (yes_plain HE.out.1 (by intro e; have := size_len s; rw [e] at this; simp at this; omega) HZ.out)
        go_wp2
        go_ret2
        exact Read.yes (s := s) (n := (v : Int)) ⟨by omega, hup⟩ (by rw [HE.out.2]; exact HY.out) (Below.refl _ _)
set_option maxHeartbeats 1000000 in
theorem rp_more {B : Nat} (s : ByteArray) (hs : s.size ≤ 140737488351232) (h0 : 0 < s.size) (hT : ((s[0].toNat : Int) == 126) = false) (h19 : s.size ≤ 19) (h1 : 1 < s.size) (hZ : ((s[0].toNat : Int) == 48) = false) (HH : Hid (s.data.toList.head? ≠ some 126)) (HZ : Hid (s.data.toList.length ≤ 1 ∨ ∀ c, s.data.toList.head? = some c → c.toNat ≠ 48)) (w : World) :
    Calls Tryd.prog 23 #[.string s] w (Read s B w) := by
  go_enter Tryd.func23, Tryd.ntmps23
  go_wp2
  go_loop [6, 7] (fun n i => ∃ k v : Nat, k ≤ s.size ∧ i = .int .i64 k ∧ n = .int .u64 v ∧ Hid (At s k v)) (fun _ i => s.size - (intOf i).toNat)
  case atStart => exact ⟨0, 0, Nat.zero_le _, rfl, rfl, Lib.hid (At.start s)⟩
  case round =>
    obtain ⟨k, v, hk, rfl, rfl, HA⟩ := hrel
    by_cases hlt : k < s.size
    · have hvb := HA.out.bound (by omega)
      by_cases hdig : 48 ≤ (s[k]'hlt).toNat ∧ (s[k]'hlt).toNat ≤ 57
      · obtain ⟨hd1, hd2⟩ := hdig
        have HS := Lib.hid (HA.out.step hlt hd1 hd2)
        go_wp2
        go_round
        case rel => exact ⟨k + 1, 10 * v + (s[k].toNat - 48), by omega, by go_num, by go_num, Lib.hid HS.out⟩
        case measure => simp [intOf]; omega
      · have HB := Lib.hid (no_plain HH.out (bad_at s k hlt hdig))
        by_cases hlo : (s[k]'hlt).toNat < 48
        · go_wp2
          go_ret2
          exact Read.no HB.out (Below.refl _ _)
        · have hhi : 57 < (s[k]'hlt).toNat := by omega
          go_wp2
          go_ret2
          exact Read.no HB.out (Below.refl _ _)
    · have hvb := HA.out.bound19 (by omega)
      have HE := Lib.hid (HA.out.all hlt)
      by_cases hbig : 9223372036854775807 < v
      · have HN := Lib.hid (big_plain HH.out (by rw [← HE.out.2]; exact hbig))
        by_cases hmore : (9223372036854775808 : Int) < (v : Int)
        · go_wp2
          go_ret2
          exact Read.no HN.out (Below.refl _ _)
        · have heq : ((v : Int) == 9223372036854775808) = true := by simpa using (by omega : (v : Int) = 9223372036854775808)
          go_wp2
          go_ret2
          exact Read.no HN.out (Below.refl _ _)
      · have hless : ¬ (9223372036854775808 : Int) < (v : Int) := by omega
        have hne : ((v : Int) == 9223372036854775808) = false := by simpa using (by omega : ¬ (v : Int) = 9223372036854775808)
        have hup : (v : Int) ≤ 9223372036854775807 := by omega
        have HY := Lib.hid (yes_plain HE.out.1 (by intro e; have := size_len s; rw [e] at this; simp at this; omega) HZ.out)
        go_wp2
        go_ret2
        exact Read.yes (s := s) (n := (v : Int)) ⟨by omega, hup⟩ (by rw [HE.out.2]; exact HY.out) (Below.refl _ _)
set_option maxHeartbeats 1000000 in
theorem rp_sgood1 {B : Nat} (s : ByteArray) (hs : s.size ≤ 140737488351232) (h0 : 0 < s.size) (hT : ((s[0].toNat : Int) == 126) = true) (t : ByteArray) (hx : s.extract 1 s.size = t) (hp : 0 < t.size) (h1 : t.size ≤ 1) (hZ : (t.toList == [48]) = false) (HH : Hid (s.data.toList.head? = some 126)) (HTL : Hid (t.data.toList = s.data.toList.tail)) (HZ : Hid (∀ c, s.data.toList.tail.head? = some c → c.toNat ≠ 48)) (w : World) :
    Calls Tryd.prog 23 #[.string s] w (Read s B w) := by
  go_enter Tryd.func23, Tryd.ntmps23
  go_wp2
  go_loop [6, 7] (fun n i => ∃ k v : Nat, k ≤ t.size ∧ i = .int .i64 k ∧ n = .int .u64 v ∧ Hid (At t k v)) (fun _ i => t.size - (intOf i).toNat)
  case atStart => exact ⟨0, 0, Nat.zero_le _, rfl, rfl, Lib.hid (At.start t)⟩
  case round =>
    obtain ⟨k, v, hk, rfl, rfl, HA⟩ := hrel
    by_cases hlt : k < t.size
    · have hvb := HA.out.bound (by omega)
      by_cases hdig : 48 ≤ (t[k]'hlt).toNat ∧ (t[k]'hlt).toNat ≤ 57
      · obtain ⟨hd1, hd2⟩ := hdig
        have HS := Lib.hid (HA.out.step hlt hd1 hd2)
        go_wp2
        go_round
        case rel => exact ⟨k + 1, 10 * v + (t[k].toNat - 48), by omega, by go_num, by go_num, Lib.hid HS.out⟩
        case measure => simp [intOf]; omega
      · have HB := Lib.hid (no_sign HH.out (by rw [← HTL.out]; exact bad_at t k hlt hdig))
        by_cases hlo : (t[k]'hlt).toNat < 48
        · go_wp2
          go_ret2
          exact Read.no HB.out (Below.refl _ _)
        · have hhi : 57 < (t[k]'hlt).toNat := by omega
          go_wp2
          go_ret2
          exact Read.no HB.out (Below.refl _ _)
    · have hvb := HA.out.bound19 (by omega)
      have HE := Lib.hid (HA.out.all hlt)
      by_cases hmore : (9223372036854775808 : Int) < (v : Int)
      · have HN := Lib.hid (big_sign HH.out (by rw [← HTL.out, ← HE.out.2]; omega))
        go_wp2
        go_ret2
        exact Read.no HN.out (Below.refl _ _)
      · have HY := Lib.hid (yes_sign HH.out (by rw [← HTL.out]; exact HE.out.1) (by rw [← HTL.out]; intro e; have := size_len t; rw [e] at this; simp at this; omega) HZ.out)
        have HI : Hid (InR (-(v : Int))) := by unfold Hid InR; omega
        by_cases heq : (v : Int) = 9223372036854775808
        · have hbk := u64_back (v : Int) (by omega) (by omega)
          have heq' : ((v : Int) == 9223372036854775808) = true := by simpa using heq
          clear heq
          go_wp2
          go_ret2
          exact Read.yes (s := s) (n := -(v : Int)) HI.out (by rw [HE.out.2, HTL.out]; exact HY.out) (Below.refl _ _)
        · have heq' : ((v : Int) == 9223372036854775808) = false := by simpa using heq
          have hbk := u64_back (v : Int) (by omega) (by omega)
          clear heq
          go_wp2
          go_ret2
          exact Read.yes (s := s) (n := -(v : Int)) HI.out (by rw [HE.out.2, HTL.out]; exact HY.out) (Below.refl _ _)
set_option maxHeartbeats 1000000 in
theorem rp_smore {B : Nat} (s : ByteArray) (hs : s.size ≤ 140737488351232) (h0 : 0 < s.size) (hT : ((s[0].toNat : Int) == 126) = true) (t : ByteArray) (hx : s.extract 1 s.size = t) (h19 : t.size ≤ 19) (h1 : 1 < t.size) (hZ : ((t[0].toNat : Int) == 48) = false) (hZ1 : (t.toList == [48]) = false) (HH : Hid (s.data.toList.head? = some 126)) (HTL : Hid (t.data.toList = s.data.toList.tail)) (HZ : Hid (∀ c, s.data.toList.tail.head? = some c → c.toNat ≠ 48)) (w : World) :
    Calls Tryd.prog 23 #[.string s] w (Read s B w) := by
  go_enter Tryd.func23, Tryd.ntmps23
  go_wp2
  go_loop [6, 7] (fun n i => ∃ k v : Nat, k ≤ t.size ∧ i = .int .i64 k ∧ n = .int .u64 v ∧ Hid (At t k v)) (fun _ i => t.size - (intOf i).toNat)
  case atStart => exact ⟨0, 0, Nat.zero_le _, rfl, rfl, Lib.hid (At.start t)⟩
  case round =>
    obtain ⟨k, v, hk, rfl, rfl, HA⟩ := hrel
    by_cases hlt : k < t.size
    · have hvb := HA.out.bound (by omega)
      by_cases hdig : 48 ≤ (t[k]'hlt).toNat ∧ (t[k]'hlt).toNat ≤ 57
      · obtain ⟨hd1, hd2⟩ := hdig
        have HS := Lib.hid (HA.out.step hlt hd1 hd2)
        go_wp2
        go_round
        case rel => exact ⟨k + 1, 10 * v + (t[k].toNat - 48), by omega, by go_num, by go_num, Lib.hid HS.out⟩
        case measure => simp [intOf]; omega
      · have HB := Lib.hid (no_sign HH.out (by rw [← HTL.out]; exact bad_at t k hlt hdig))
        by_cases hlo : (t[k]'hlt).toNat < 48
        · go_wp2
          go_ret2
          exact Read.no HB.out (Below.refl _ _)
        · have hhi : 57 < (t[k]'hlt).toNat := by omega
          go_wp2
          go_ret2
          exact Read.no HB.out (Below.refl _ _)
    · have hvb := HA.out.bound19 (by omega)
      have HE := Lib.hid (HA.out.all hlt)
      by_cases hmore : (9223372036854775808 : Int) < (v : Int)
      · have HN := Lib.hid (big_sign HH.out (by rw [← HTL.out, ← HE.out.2]; omega))
        go_wp2
        go_ret2
        exact Read.no HN.out (Below.refl _ _)
      · have HY := Lib.hid (yes_sign HH.out (by rw [← HTL.out]; exact HE.out.1) (by rw [← HTL.out]; intro e; have := size_len t; rw [e] at this; simp at this; omega) HZ.out)
        have HI : Hid (InR (-(v : Int))) := by unfold Hid InR; omega
        by_cases heq : (v : Int) = 9223372036854775808
        · have hbk := u64_back (v : Int) (by omega) (by omega)
          have heq' : ((v : Int) == 9223372036854775808) = true := by simpa using heq
          clear heq
          go_wp2
          go_ret2
          exact Read.yes (s := s) (n := -(v : Int)) HI.out (by rw [HE.out.2, HTL.out]; exact HY.out) (Below.refl _ _)
        · have heq' : ((v : Int) == 9223372036854775808) = false := by simpa using heq
          have hbk := u64_back (v : Int) (by omega) (by omega)
          clear heq
          go_wp2
          go_ret2
          exact Read.yes (s := s) (n := -(v : Int)) HI.out (by rw [HE.out.2, HTL.out]; exact HY.out) (Below.refl _ _)
end Go.Proofs.YtekbfgjlkmldgaaDoor.W
