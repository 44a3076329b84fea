/- Plain facts: the number that digits say, digit by digit, and what is no number. Nothing of the program stands here. -/
import Derived.Test.YtflkinglgnkchaaDoorPackM2
namespace Go.Proofs.YtflkinglgnkchaaDoor.M
open Go.Lib

/-- What stands behind the sign. -/
def body (l : List UInt8) : List UInt8 := if l.head? = some 45 then l.tail else l
theorem num_app_le (l r : List UInt8) : num l ≤ num (l ++ r) := by
  refine snoc_ind (p := fun r => num l ≤ num (l ++ r)) ?_ ?_ r
  · simp
  · intro r c ih
    rw [← List.append_assoc, num_snoc]; omega
theorem num_take_le (l : List UInt8) (k : Nat) : num (l.take k) ≤ num l := by
  have := num_app_le (l.take k) (l.drop k)
  rwa [List.take_append_drop] at this
theorem body_itoa (v : Int) : body (itoa v) = decDigits v.natAbs ∧ ((itoa v).head? = some 45 ↔ v < 0) := by
  refine ⟨?_, itoa_sign v⟩
  unfold body
  by_cases h : v < 0
  · rw [if_pos ((itoa_sign v).2 h)]
    unfold itoa; rw [if_pos h]; rfl
  · rw [if_neg (fun h' => h ((itoa_sign v).1 h'))]
    unfold itoa; rw [if_neg h]
    congr 1; omega
/-- What a text that is a number's digits comes to. -/
theorem is_num {l : List UInt8} {v : Int} (h : itoa v = l) (h0 : -9223372036854775808 ≤ v) (h1 : v ≤ 9223372036854775807) :
    (∀ c ∈ body l, 48 ≤ c.toNat ∧ c.toNat ≤ 57) ∧ num (body l) = v.natAbs ∧ body l ≠ [] ∧ (body l).length ≤ 19 ∧ (l.head? = some 45 ↔ v < 0) := by
  subst h
  obtain ⟨h2, h3⟩ := body_itoa v
  rw [h2]
  exact ⟨dec_dig _, num_dec _, dec_ne _, dec_len _ 19 (by omega) (by omega), h3⟩
/-- What the document's reckoning of a number leaves: the number and true, or false. -/
def NumRes (l : List UInt8) (n : Int) (b : Bool) : Prop := match parse l with | some v => n = v ∧ b = true | none => b = false
theorem NumRes.no {l : List UInt8} {n : Int} (h : ∀ v, itoa v = l → -9223372036854775808 ≤ v → v ≤ 9223372036854775807 → False) : NumRes l n false := by
  unfold NumRes
  cases hp : parse l with
  | none => rfl
  | some v => obtain ⟨h1, h2, h3, _⟩ := parse_some hp; exact (h v h1 h2 h3).elim
theorem NumRes.yes {l : List UInt8} {n : Int} (h0 : -9223372036854775808 ≤ n) (h1 : n ≤ 9223372036854775807) (h : itoa n = l) : NumRes l n true := by
  unfold NumRes
  subst h
  rw [parse_itoa n h0 h1]
  exact ⟨rfl, rfl⟩
theorem num_dig_bound {l : List UInt8} {k : Nat} (hk : k < l.length) : num (l.take (k + 1)) = num (l.take k) * 10 + (l[k].toNat - 48) := by
  rw [List.take_succ_eq_append_getElem hk, num_snoc]
end Go.Proofs.YtflkinglgnkchaaDoor.M
