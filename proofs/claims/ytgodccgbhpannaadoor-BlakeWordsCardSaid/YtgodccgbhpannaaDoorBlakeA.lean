/- The program's and the document's turning of a number. -/
import Derived.Test.YtgodccgbhpannaaDoorBlakeM
namespace Go.Proofs.YtgodccgbhpannaaDoor
open Go.RowKit

theorem rot_bits (x : Nat) (hx : x < 4294967296) (n : Nat) : bits .or .u32 ((x : Int) * 2 ^ (32 - n) % 4294967296) ((x : Int) / 2 ^ n) = (M.rot x n : Nat) := by
  have h1 : ((x : Int) * 2 ^ (32 - n) % 4294967296) = ((x * 2 ^ (32 - n) % 4294967296 : Nat) : Int) := by simp
  have h2 : ((x : Int) / 2 ^ n) = ((x / 2 ^ n : Nat) : Int) := by simp
  rw [h1, h2, u32_or_nat _ _ (Nat.mod_lt _ (by decide)) (Nat.lt_of_le_of_lt (Nat.div_le_self _ _) hx), Nat.or_comm]
  rfl
theorem i64_or_nat (a b : Nat) (ha : a < 9223372036854775808) (hb : b < 9223372036854775808) : bits .or .i64 (a : Int) (b : Int) = ((a ||| b : Nat) : Int) := by
  have hx : a ||| b < 2 ^ 63 := Nat.or_lt_two_pow (by omega) (by omega)
  show IntKind.i64.wrap ((BitVec.ofInt 64 (a : Int) ||| BitVec.ofInt 64 (b : Int)).toNat : Int) = _
  rw [BitVec.toNat_or, ofInt_u64 a (by omega), ofInt_u64 b (by omega), IntKind.wrap_i64]
  omega
theorem i64_xor_nat (a b : Nat) (ha : a < 9223372036854775808) (hb : b < 9223372036854775808) : bits .xor .i64 (a : Int) (b : Int) = ((a ^^^ b : Nat) : Int) := by
  have hx : a ^^^ b < 2 ^ 63 := Nat.xor_lt_two_pow (by omega) (by omega)
  show IntKind.i64.wrap ((BitVec.ofInt 64 (a : Int) ^^^ BitVec.ofInt 64 (b : Int)).toNat : Int) = _
  rw [BitVec.toNat_xor, ofInt_u64 a (by omega), ofInt_u64 b (by omega), IntKind.wrap_i64]
  omega
theorem shl_small (x : Nat) (hx : x < 4294967296) (n : Nat) (hn : n ≤ 30) : x * 2 ^ n < 4611686018427387904 := by
  have h1 : 2 ^ n ≤ 2 ^ 30 := Nat.pow_le_pow_right (by decide) hn
  calc x * 2 ^ n ≤ x * 2 ^ 30 := Nat.mul_le_mul_left _ h1
    _ < 4611686018427387904 := by omega

set_option maxHeartbeats 1000000 in
theorem left_any (x : Nat) (hx : x < 4294967296) (k : Int) (n : Nat) (hn : k = -16 ∧ n = 16 ∨ k = -12 ∧ n = 12 ∨ k = -8 ∧ n = 8 ∨ k = -7 ∧ n = 7) (w : World) :
    Calls Tryd.prog 23 #[.int .u32 x, .int .i64 k] w fun e w' => e = .returned (.int .u32 (M.rot x n : Nat)) ∧ w' = w := by
  have hb : ∃ m : Nat, m ≤ 31 ∧ n ≤ 31 ∧ m = 32 - n ∧ bits .and .u64 (IntKind.u64.wrap k) 31 = m := by
    rcases hn with ⟨rfl, rfl⟩ | ⟨rfl, rfl⟩ | ⟨rfl, rfl⟩ | ⟨rfl, rfl⟩
    · exact ⟨16, by decide +kernel⟩
    · exact ⟨20, by decide +kernel⟩
    · exact ⟨24, by decide +kernel⟩
    · exact ⟨25, by decide +kernel⟩
  obtain ⟨m, hm, hn', hmn, hb⟩ := hb
  have hr := rot_bits x hx n
  have hnn : 32 - (32 - n) = n := by omega
  have HR := Lib.hid hr
  clear hr hn
  go_enter Tryd.func23, Tryd.ntmps23
  go_wp2
  go_ret
  exact ⟨ret_int HR.out, rfl⟩

theorem rotate_any (x : Nat) (hx : x < 4294967296) (k : Int) (n : Nat) (hn : k = 16 ∧ n = 16 ∨ k = 12 ∧ n = 12 ∨ k = 8 ∧ n = 8 ∨ k = 7 ∧ n = 7) (w : World) :
    Calls Tryd.prog 22 #[.int .u32 x, .int .i64 k] w fun e w' => e = .returned (.int .u32 (M.rot x n : Nat)) ∧ w' = w := by
  have hk : IntKind.i64.wrap (-k) = -k := IntWalk.i64_in _ (by omega)
  have HL := Lib.hid (left_any x hx (-k) n (by omega) w)
  clear hn
  go_enter Tryd.func22, Tryd.ntmps22
  go_wp2_with ((with_reducible refine HL.out.mono ?_); rintro e w1 ⟨rfl, rfl⟩)
  go_ret
  exact ⟨rfl, rfl⟩

set_option maxHeartbeats 1000000 in
theorem turned_any (x : Nat) (hx : x < 4294967296) (k : Int) (n : Nat) (hn : k = 16 ∧ n = 16 ∨ k = 12 ∧ n = 12 ∨ k = 8 ∧ n = 8 ∨ k = 7 ∧ n = 7) (w : World) :
    Calls Tryd.prog 21 #[.int .i64 x, .int .i64 k] w fun e w' => e = .returned (.int .i64 (M.rot x n : Nat)) ∧ ∃ k, w' = w.drewN k := by
  have hk : k = (n : Int) := by omega
  have hn1 : n ≤ 31 := by omega
  have hn2 : 2 ≤ n := by omega
  subst hk
  have hs := shl_small x hx (32 - n) (by omega)
  have hd : x / 2 ^ n < 4294967296 := Nat.lt_of_le_of_lt (Nat.div_le_self _ _) hx
  have hr : (bits .or .i64 ((x : Int) / 2 ^ n) ((x : Int) * 2 ^ (32 - n))) = ((x / 2 ^ n ||| x * 2 ^ (32 - n) : Nat) : Int) := by
    have := i64_or_nat (x / 2 ^ n) (x * 2 ^ (32 - n)) (by omega) (by omega)
    simpa using this
  have hm : ((x / 2 ^ n ||| x * 2 ^ (32 - n)) % 4294967296) = M.rot x n := by
    have := Nat.or_mod_two_pow (a := x / 2 ^ n) (b := x * 2 ^ (32 - n)) (n := 32)
    rw [show (2 : Nat) ^ 32 = 4294967296 from rfl, Nat.mod_eq_of_lt hd] at this
    exact this
  have hw : IntKind.i64.wrap ((x : Int) * 2 ^ (32 - n)) = (x : Int) * 2 ^ (32 - n) := IntWalk.i64_in _ (by
    have : ((x : Int) * 2 ^ (32 - n)) = ((x * 2 ^ (32 - n) : Nat) : Int) := by simp
    omega)
  have hw2 : IntKind.i64.wrap (32 - (n : Int)) = ((32 - n : Nat) : Int) := by
    rw [IntWalk.i64_in _ (by omega)]; omega
  have HM := Lib.hid hm
  clear hm hn hd
  generalize hz : x / 2 ^ n ||| x * 2 ^ (32 - n) = z at *
  clear hz
  have ht : (z : Int).tmod 4294967296 = ((z % 4294967296 : Nat) : Int) := by rw [Int.tmod_eq_emod_of_nonneg (by omega)]; rfl
  go_enter Tryd.func21, Tryd.ntmps21
  go_wp2
  go_quiet (fail)
  go_wp2
  go_ret
  exact ⟨ret_int (ht.symm.trans (by rw [ht, HM.out])), _, rfl⟩
end Go.Proofs.YtgodccgbhpannaaDoor
