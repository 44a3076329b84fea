/- Plain facts on the digits of numbers: they are read back, their size, their first one. Nothing of the program stands here. -/
import Derived.Lib.ItoaNum
import Derived.Lib.AtoiAll
import Derived.Lib.AtoiAllCases
namespace Go.Proofs.YtflkinglgnkchaaDoor.M
open Go.Lib

theorem ofNat_toNat {d : Nat} (h : d < 10) : (UInt8.ofNat (48 + d)).toNat = 48 + d := by simp; omega
theorem dec_ind {p : Nat → Prop} (h0 : ∀ u, u < 10 → p u) (h1 : ∀ u, ¬ u < 10 → p (u / 10) → p u) (u : Nat) : p u := by
  induction u using Nat.strongRecOn with
  | _ u ih =>
    by_cases h : u < 10
    · exact h0 u h
    · exact h1 u h (ih (u / 10) (by omega))
theorem dec_small {u : Nat} (h : u < 10) : decDigits u = [UInt8.ofNat (48 + u)] := by rw [decDigits, dif_pos h]
theorem dec_big {u : Nat} (h : ¬ u < 10) : decDigits u = decDigits (u / 10) ++ [UInt8.ofNat (48 + u % 10)] := by rw [decDigits, dif_neg h]
theorem dec_dig (u : Nat) : ∀ c ∈ decDigits u, 48 ≤ c.toNat ∧ c.toNat ≤ 57 := by
  refine dec_ind (p := fun u => ∀ c ∈ decDigits u, 48 ≤ c.toNat ∧ c.toNat ≤ 57) ?_ ?_ u
  · intro u h c hc
    rw [dec_small h] at hc
    obtain rfl := List.mem_singleton.1 hc
    rw [ofNat_toNat h]; omega
  · intro u h ih c hc
    rw [dec_big h, List.mem_append] at hc
    rcases hc with hc | hc
    · exact ih c hc
    · obtain rfl := List.mem_singleton.1 hc
      rw [ofNat_toNat (by omega)]; omega
theorem dec_ne (u : Nat) : decDigits u ≠ [] := by
  by_cases h : u < 10
  · rw [dec_small h]; simp
  · rw [dec_big h]; simp
theorem dec_len (u : Nat) : ∀ k, u < 10 ^ k → 1 ≤ k → (decDigits u).length ≤ k := by
  refine dec_ind (p := fun u => ∀ k, u < 10 ^ k → 1 ≤ k → (decDigits u).length ≤ k) ?_ ?_ u
  · intro u h k _ h1
    rw [dec_small h]; simpa using h1
  · intro u h ih k hk h1
    rw [dec_big h]
    obtain ⟨j, rfl⟩ : ∃ j, k = j + 1 := ⟨k - 1, by omega⟩
    have hj : 1 ≤ j := by
      rcases j with _ | j
      · simp at hk; omega
      · omega
    have := ih j (by rw [Nat.pow_succ] at hk; omega) hj
    simp; omega
theorem dec_head (u : Nat) (h : 0 < u) : ∃ c r, decDigits u = c :: r ∧ 49 ≤ c.toNat := by
  refine dec_ind (p := fun u => 0 < u → ∃ c r, decDigits u = c :: r ∧ 49 ≤ c.toNat) ?_ ?_ u h
  · intro u h h0
    exact ⟨_, [], dec_small h, by rw [ofNat_toNat h]; omega⟩
  · intro u h ih _
    obtain ⟨c, r, hc, h49⟩ := ih (by omega)
    exact ⟨c, r ++ [UInt8.ofNat (48 + u % 10)], by rw [dec_big h, hc]; rfl, h49⟩
theorem pu_append (l r : List UInt8) : ∀ acc, parseUint10 acc (l ++ r) = match parseUint10 acc l with | .ok a => parseUint10 a r | x => x := by
  induction l with
  | nil => intro acc; simp [parseUint10]
  | cons c l ih =>
    intro acc
    simp only [List.cons_append, parseUint10]
    split
    · split
      · rfl
      · split
        · rfl
        · exact ih _
    · rfl
theorem pu_dec (u : Nat) (hu : u < 18446744073709551616) : parseUint10 0 (decDigits u) = .ok u := by
  refine dec_ind (p := fun u => u < 18446744073709551616 → parseUint10 0 (decDigits u) = .ok u) ?_ ?_ u hu
  · intro u h _
    rw [dec_small h, parseUint10, ofNat_toNat h, if_pos (by omega), if_neg (by omega), if_neg (by omega), parseUint10]
    congr 1; omega
  · intro u h ih hu
    rw [dec_big h, pu_append, ih (by omega)]
    simp only [parseUint10]
    rw [ofNat_toNat (by omega), if_pos (by omega), if_neg (by omega), if_neg (by omega)]
    congr 1; omega
theorem mag_dec (u : Nat) (hu : u < 18446744073709551616) : parseMag (decDigits u) = .ok u := by
  rw [parseMag, if_neg (dec_ne u), pu_dec u hu]
theorem atoi_itoa (n : Int) (h0 : -9223372036854775808 ≤ n) (h1 : n ≤ 9223372036854775807) : atoiAll (itoa n) = .ok n := by
  unfold itoa
  by_cases h : n < 0
  · rw [if_pos h, atoiAll_minus, mag_dec _ (by omega)]
    unfold signed
    simp only
    rw [if_neg (by omega)]
    congr 1; omega
  · rw [if_neg h]
    obtain ⟨c, r, hc⟩ : ∃ c r, decDigits n.toNat = c :: r := by
      cases hd : decDigits n.toNat with
      | nil => exact absurd hd (dec_ne _)
      | cons c r => exact ⟨c, r, rfl⟩
    have hcd := dec_dig n.toNat c (by rw [hc]; simp)
    rw [hc, atoiAll_plain c r (by omega) (by omega), ← hc, mag_dec _ (by omega)]
    unfold signless
    simp only
    rw [if_neg (by omega)]
    congr 1; omega
/-- The number whose digits these are. -/
def parse (l : List UInt8) : Option Int := match atoiAll l with | .ok v => if itoa v = l then some v else none | _ => none
theorem parse_itoa (n : Int) (h0 : -9223372036854775808 ≤ n) (h1 : n ≤ 9223372036854775807) : parse (itoa n) = some n := by
  simp [parse, atoi_itoa n h0 h1]
theorem parse_some {l : List UInt8} {v : Int} (h : parse l = some v) : itoa v = l ∧ -9223372036854775808 ≤ v ∧ v ≤ 9223372036854775807 ∧ atoiAll l = .ok v := by
  unfold parse at h
  split at h
  · rename_i x hx
    split at h
    · rename_i hi
      obtain rfl := Option.some.inj h
      exact ⟨hi, (atoiAll_bounds hx).1, (atoiAll_bounds hx).2, hx⟩
    · cases h
  · cases h
theorem parse_none {l : List UInt8} (h : parse l = none) (n : Int) (h0 : -9223372036854775808 ≤ n) (h1 : n ≤ 9223372036854775807) : itoa n ≠ l := by
  intro e
  rw [← e, parse_itoa n h0 h1] at h
  cases h
theorem itoa_ne (n : Int) : itoa n ≠ [] := by
  unfold itoa
  split
  · simp
  · exact dec_ne _
theorem itoa_len20 (n : Int) (h0 : -9223372036854775808 ≤ n) (h1 : n ≤ 9223372036854775807) : (itoa n).length ≤ 20 := by
  unfold itoa
  split
  · have := dec_len n.natAbs 19 (by omega) (by omega)
    simp; omega
  · have := dec_len n.toNat 19 (by omega) (by omega)
    omega
theorem itoa_sign (n : Int) : (itoa n).head? = some 45 ↔ n < 0 := by
  unfold itoa
  split
  · simp; assumption
  · rename_i h
    cases hd : decDigits n.toNat with
    | nil => exact absurd hd (dec_ne _)
    | cons c r =>
      have := dec_dig n.toNat c (by rw [hd]; simp)
      simp only [List.head?_cons, Option.some.injEq]
      constructor
      · rintro rfl; exact absurd this.1 (by decide)
      · intro h'; exact absurd h' h
end Go.Proofs.YtflkinglgnkchaaDoor.M
