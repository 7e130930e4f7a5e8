/- The small functions of the standard library and of bigend: their contracts. -/
import Derived.Test.YtmfkdgegkogmoaaRows
import Derived.Test.YtmfkdgegkogmoaaKit
import Derived.Outline
import Derived.BigQuiet
import Derived.Deep.QuietTactic
import Derived.Deep.DeepFit
import Derived.Deep.DeepMust
import Derived.Lib.BitFns
namespace Go.Proofs.Ytmfkdgegkogmoaa
set_option linter.unusedVariables false
open Go Go.RowKit

theorem Try.infoB : (Try.prog.info? 5).map (fun i => (i.zero, i.size, i.bytes)) = some (some (.int .u8 0), 1, 1) := by kernel_rfl

theorem isWidth_yes (x : Int) (w : World) (h1 : 1 ≤ x) (h2 : x ≤ 8) : Calls Try.prog 30 #[.int .i64 x] w fun e w' => e = .returned (.bool true) ∧ w = w' := by
  go_enter Try.func30, Try.ntmps30
  go_wp2
  go_ret
  exact ⟨rfl, rfl⟩

theorem isWidth_no (x : Int) (w : World) (h1 : x < 1 ∨ 8 < x) : Calls Try.prog 30 #[.int .i64 x] w fun e w' => e = .returned (.bool false) ∧ w = w' := by
  rcases h1 with h | h
  · have h' : ¬ 1 ≤ x := by omega
    go_enter Try.func30, Try.ntmps30
    go_wp2
    go_ret
    exact ⟨rfl, rfl⟩
  · have h' : ¬ x ≤ 8 := by omega
    go_enter Try.func30, Try.ntmps30
    go_wp2
    go_ret
    exact ⟨rfl, rfl⟩

theorem ret_i64 {a b : Int} (h : a = b) : Ending.returned (.int .i64 a) = .returned (.int .i64 b) := by rw [h]

theorem len8_bound (b : Int) (h0 : 0 ≤ b) (h1 : b ≤ 255) : 0 ≤ Lib.len8 b ∧ Lib.len8 b ≤ 8 := by
  rw [Lib.len8_of b h0 h1]; have := Lib.bitLen_le8' b h0 h1; omega

set_option maxHeartbeats 400000 in
theorem len64_111 (x : Int) (w : World) (h0' : 0 ≤ x) (h1' : x ≤ 18446744073709551615) (h0 : 4294967296 ≤ x) (h1 : 65536 ≤ x / 4294967296) (h2 : 256 ≤ x / 4294967296 / 65536) :
    Calls Try.prog 27 #[.int .u64 x] w fun e w' => e = .returned (.int .i64 (Lib.bitLen x.toNat)) ∧ w = w' := by
  have b0 : 0 ≤ x / 4294967296 / 65536 / 256 := by omega
  have b1 : x / 4294967296 / 65536 / 256 ≤ 255 := by omega
  have b2 := len8_bound (x / 4294967296 / 65536 / 256) b0 b1
  have K : ((56 : Int) + Lib.len8 (x / 4294967296 / 65536 / 256)) = (Lib.bitLen x.toNat : Int) := by
    rw [Lib.len8_of (x / 4294967296 / 65536 / 256) b0 b1]
    have s := Lib.bitLen_shift56 x.toNat (by omega) (by omega)
    have e : (x / 4294967296 / 65536 / 256).toNat = x.toNat / 72057594037927936 := by omega
    rw [e]
    omega
  have H := Lib.hid K
  clear K
  go_enter Try.func27, Try.ntmps27
  go_wp2
  go_ret
  exact ⟨ret_i64 (by have := H.out; omega), rfl⟩

set_option maxHeartbeats 400000 in
theorem len64_110 (x : Int) (w : World) (h0' : 0 ≤ x) (h1' : x ≤ 18446744073709551615) (h0 : 4294967296 ≤ x) (h1 : 65536 ≤ x / 4294967296) (h2 : x / 4294967296 / 65536 < 256) :
    Calls Try.prog 27 #[.int .u64 x] w fun e w' => e = .returned (.int .i64 (Lib.bitLen x.toNat)) ∧ w = w' := by
  have b0 : 0 ≤ x / 4294967296 / 65536 := by omega
  have b1 : x / 4294967296 / 65536 ≤ 255 := by omega
  have b2 := len8_bound (x / 4294967296 / 65536) b0 b1
  have K : ((48 : Int) + Lib.len8 (x / 4294967296 / 65536)) = (Lib.bitLen x.toNat : Int) := by
    rw [Lib.len8_of (x / 4294967296 / 65536) b0 b1]
    have s := Lib.bitLen_shift48 x.toNat (by omega) (by omega)
    have e : (x / 4294967296 / 65536).toNat = x.toNat / 281474976710656 := by omega
    rw [e]
    omega
  have H := Lib.hid K
  clear K
  go_enter Try.func27, Try.ntmps27
  go_wp2
  go_ret
  exact ⟨ret_i64 (by have := H.out; omega), rfl⟩

set_option maxHeartbeats 400000 in
theorem len64_101 (x : Int) (w : World) (h0' : 0 ≤ x) (h1' : x ≤ 18446744073709551615) (h0 : 4294967296 ≤ x) (h1 : x / 4294967296 < 65536) (h2 : 256 ≤ x / 4294967296) :
    Calls Try.prog 27 #[.int .u64 x] w fun e w' => e = .returned (.int .i64 (Lib.bitLen x.toNat)) ∧ w = w' := by
  have b0 : 0 ≤ x / 4294967296 / 256 := by omega
  have b1 : x / 4294967296 / 256 ≤ 255 := by omega
  have b2 := len8_bound (x / 4294967296 / 256) b0 b1
  have K : ((40 : Int) + Lib.len8 (x / 4294967296 / 256)) = (Lib.bitLen x.toNat : Int) := by
    rw [Lib.len8_of (x / 4294967296 / 256) b0 b1]
    have s := Lib.bitLen_shift40 x.toNat (by omega) (by omega)
    have e : (x / 4294967296 / 256).toNat = x.toNat / 1099511627776 := by omega
    rw [e]
    omega
  have H := Lib.hid K
  clear K
  go_enter Try.func27, Try.ntmps27
  go_wp2
  go_ret
  exact ⟨ret_i64 (by have := H.out; omega), rfl⟩

set_option maxHeartbeats 400000 in
theorem len64_100 (x : Int) (w : World) (h0' : 0 ≤ x) (h1' : x ≤ 18446744073709551615) (h0 : 4294967296 ≤ x) (h1 : x / 4294967296 < 65536) (h2 : x / 4294967296 < 256) :
    Calls Try.prog 27 #[.int .u64 x] w fun e w' => e = .returned (.int .i64 (Lib.bitLen x.toNat)) ∧ w = w' := by
  have b0 : 0 ≤ x / 4294967296 := by omega
  have b1 : x / 4294967296 ≤ 255 := by omega
  have b2 := len8_bound (x / 4294967296) b0 b1
  have K : ((32 : Int) + Lib.len8 (x / 4294967296)) = (Lib.bitLen x.toNat : Int) := by
    rw [Lib.len8_of (x / 4294967296) b0 b1]
    have s := Lib.bitLen_shift32 x.toNat (by omega) (by omega)
    have e : (x / 4294967296).toNat = x.toNat / 4294967296 := by omega
    rw [e]
    omega
  have H := Lib.hid K
  clear K
  go_enter Try.func27, Try.ntmps27
  go_wp2
  go_ret
  exact ⟨ret_i64 (by have := H.out; omega), rfl⟩

set_option maxHeartbeats 400000 in
theorem len64_011 (x : Int) (w : World) (h0' : 0 ≤ x) (h1' : x ≤ 18446744073709551615) (h0 : x < 4294967296) (h1 : 65536 ≤ x) (h2 : 256 ≤ x / 65536) :
    Calls Try.prog 27 #[.int .u64 x] w fun e w' => e = .returned (.int .i64 (Lib.bitLen x.toNat)) ∧ w = w' := by
  have b0 : 0 ≤ x / 65536 / 256 := by omega
  have b1 : x / 65536 / 256 ≤ 255 := by omega
  have b2 := len8_bound (x / 65536 / 256) b0 b1
  have K : ((24 : Int) + Lib.len8 (x / 65536 / 256)) = (Lib.bitLen x.toNat : Int) := by
    rw [Lib.len8_of (x / 65536 / 256) b0 b1]
    have s := Lib.bitLen_shift24 x.toNat (by omega) (by omega)
    have e : (x / 65536 / 256).toNat = x.toNat / 16777216 := by omega
    rw [e]
    omega
  have H := Lib.hid K
  clear K
  go_enter Try.func27, Try.ntmps27
  go_wp2
  go_ret
  exact ⟨ret_i64 (by have := H.out; omega), rfl⟩

set_option maxHeartbeats 400000 in
theorem len64_010 (x : Int) (w : World) (h0' : 0 ≤ x) (h1' : x ≤ 18446744073709551615) (h0 : x < 4294967296) (h1 : 65536 ≤ x) (h2 : x / 65536 < 256) :
    Calls Try.prog 27 #[.int .u64 x] w fun e w' => e = .returned (.int .i64 (Lib.bitLen x.toNat)) ∧ w = w' := by
  have b0 : 0 ≤ x / 65536 := by omega
  have b1 : x / 65536 ≤ 255 := by omega
  have b2 := len8_bound (x / 65536) b0 b1
  have K : ((16 : Int) + Lib.len8 (x / 65536)) = (Lib.bitLen x.toNat : Int) := by
    rw [Lib.len8_of (x / 65536) b0 b1]
    have s := Lib.bitLen_shift16 x.toNat (by omega) (by omega)
    have e : (x / 65536).toNat = x.toNat / 65536 := by omega
    rw [e]
    omega
  have H := Lib.hid K
  clear K
  go_enter Try.func27, Try.ntmps27
  go_wp2
  go_ret
  exact ⟨ret_i64 (by have := H.out; omega), rfl⟩

set_option maxHeartbeats 400000 in
theorem len64_001 (x : Int) (w : World) (h0' : 0 ≤ x) (h1' : x ≤ 18446744073709551615) (h0 : x < 4294967296) (h1 : x < 65536) (h2 : 256 ≤ x) :
    Calls Try.prog 27 #[.int .u64 x] w fun e w' => e = .returned (.int .i64 (Lib.bitLen x.toNat)) ∧ w = w' := by
  have b0 : 0 ≤ x / 256 := by omega
  have b1 : x / 256 ≤ 255 := by omega
  have b2 := len8_bound (x / 256) b0 b1
  have K : ((8 : Int) + Lib.len8 (x / 256)) = (Lib.bitLen x.toNat : Int) := by
    rw [Lib.len8_of (x / 256) b0 b1]
    have s := Lib.bitLen_shift8 x.toNat (by omega) (by omega)
    have e : (x / 256).toNat = x.toNat / 256 := by omega
    rw [e]
    omega
  have H := Lib.hid K
  clear K
  go_enter Try.func27, Try.ntmps27
  go_wp2
  go_ret
  exact ⟨ret_i64 (by have := H.out; omega), rfl⟩

set_option maxHeartbeats 400000 in
theorem len64_000 (x : Int) (w : World) (h0' : 0 ≤ x) (h1' : x ≤ 18446744073709551615) (h0 : x < 4294967296) (h1 : x < 65536) (h2 : x < 256) :
    Calls Try.prog 27 #[.int .u64 x] w fun e w' => e = .returned (.int .i64 (Lib.bitLen x.toNat)) ∧ w = w' := by
  have b0 : 0 ≤ x := by omega
  have b1 : x ≤ 255 := by omega
  have b2 := len8_bound (x) b0 b1
  have K : ((0 : Int) + Lib.len8 (x)) = (Lib.bitLen x.toNat : Int) := by
    rw [Lib.len8_of (x) b0 b1]
    omega
  have H := Lib.hid K
  clear K
  go_enter Try.func27, Try.ntmps27
  go_wp2
  go_ret
  exact ⟨ret_i64 (by have := H.out; omega), rfl⟩

theorem len64_any (x : Int) (w : World) (h0 : 0 ≤ x) (h1 : x ≤ 18446744073709551615) :
    Calls Try.prog 27 #[.int .u64 x] w fun e w' => e = .returned (.int .i64 (Lib.bitLen x.toNat)) ∧ w = w' := by
  by_cases c0 : 4294967296 ≤ x
  · by_cases c1 : 65536 ≤ x / 4294967296
    · by_cases c2 : 256 ≤ x / 4294967296 / 65536
      · exact len64_111 x w h0 h1 (by omega) (by omega) (by omega)
      · exact len64_110 x w h0 h1 (by omega) (by omega) (by omega)
    · by_cases c2 : 256 ≤ x / 4294967296
      · exact len64_101 x w h0 h1 (by omega) (by omega) (by omega)
      · exact len64_100 x w h0 h1 (by omega) (by omega) (by omega)
  · by_cases c1 : 65536 ≤ x
    · by_cases c2 : 256 ≤ x / 65536
      · exact len64_011 x w h0 h1 (by omega) (by omega) (by omega)
      · exact len64_010 x w h0 h1 (by omega) (by omega) (by omega)
    · by_cases c2 : 256 ≤ x
      · exact len64_001 x w h0 h1 (by omega) (by omega) (by omega)
      · exact len64_000 x w h0 h1 (by omega) (by omega) (by omega)

end Go.Proofs.Ytmfkdgegkogmoaa
