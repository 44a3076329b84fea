/- The document's paths, names and what is below. -/
import Derived.Test.YtcmbmbdjdkldoaaDoorPathsB
namespace Go.Proofs.YtcmbmbdjdkldoaaDoor
open Go.RowKit

theorem rbelow_any (p t : List UInt8) (_ : p.length ≤ 1099511627776) (ht : t.length ≤ 1099511627776) (w : World) :
    Calls Tryd.prog 43 #[S p, S t] w fun e w' => e = .returned (.bool (M.below p t)) ∧ w' = w := by
  have h1 := size_mk p
  have h2 := size_mk t
  have HB := Lib.hid (show M.below p t = (decide (t.length + 1 < p.length) && (p[t.length]? == some 47) && (p.take t.length == t)) from rfl)
  by_cases hlt : t.length + 1 < p.length
  · obtain ⟨c, hgt⟩ : ∃ c, ∀ h, (⟨⟨p⟩⟩ : ByteArray)[t.length]'h = c := ⟨p[t.length], fun _ => rfl⟩
    have HC := Lib.hid (show p[t.length]? = some c by rw [List.getElem?_eq_getElem (by omega)]; exact congrArg some (hgt (by rw [h1]; omega)))
    have hcl := c.toNat_lt
    have hex : (⟨⟨p⟩⟩ : ByteArray).extract 0 t.length = ⟨⟨p.take t.length⟩⟩ := ba_eq (by rw [Lib.extract_data]; simp)
    have l1 : (t.length : Int) ≤ (p.length : Int) := by omega
    rw [decide_eq_true hlt, Bool.true_and, HC.out] at HB
    by_cases hq : p.take t.length = t
    · have e1 : (p.take t.length == t) = true := by rw [hq]; simp
      rw [e1, Bool.and_true] at HB
      by_cases hc : c.toNat = 47
      · have HX := Lib.hid (show (some c == some (47 : UInt8)) = true by rw [UInt8.toNat_inj.1 (show c.toNat = (47 : UInt8).toNat from hc)]; rfl)
        clear hq
        go_enter Tryd.func43, Tryd.ntmps43
        go_wp2
        go_ret
        exact ⟨ret_bool (by rw [HB.out, HX.out]), rfl⟩
      · have HX := Lib.hid (show (some c == some (47 : UInt8)) = false from beq_eq_false_iff_ne.2 (fun e => hc (by rw [Option.some.inj e]; rfl)))
        clear hq
        go_enter Tryd.func43, Tryd.ntmps43
        go_wp2
        go_ret
        exact ⟨ret_bool (by rw [HB.out, HX.out]; simp; omega), rfl⟩
    · have e1 : (p.take t.length == t) = false := beq_eq_false_iff_ne.2 hq
      rw [e1, Bool.and_false] at HB
      clear hq
      go_enter Tryd.func43, Tryd.ntmps43
      go_wp2
      go_ret
      exact ⟨ret_bool HB.out.symm, rfl⟩
  · go_enter Tryd.func43, Tryd.ntmps43
    go_wp2
    go_ret
    exact ⟨ret_bool (by rw [HB.out, decide_eq_false hlt]; rfl), rfl⟩

set_option maxHeartbeats 2000000 in
set_option maxRecDepth 100000 in
theorem rname_any (s : List UInt8) (hl : s.length ≤ maxLen) (w : World) :
    Calls Tryd.prog 20 #[S s] w fun e w' => e = .returned (.int .i64 (M.name s)) ∧ w' = w := by
  unfold maxLen at hl
  have hsz := size_mk s
  by_cases h1 : s.length < 1
  · go_enter Tryd.func20, Tryd.ntmps20
    go_wp2
    go_ret
    exact ⟨ret_int (by unfold M.name; rw [if_neg (by omega)]), rfl⟩
  by_cases h2 : 16 < s.length
  · go_enter Tryd.func20, Tryd.ntmps20
    go_wp2
    go_ret
    exact ⟨ret_int (by unfold M.name; rw [if_neg (by omega)]), rfl⟩
  go_enter Tryd.func20, Tryd.ntmps20
  go_wp2
  go_loopw [3] (fun i wr => ∃ k : Nat, k ≤ s.length ∧ i = .int .i64 k ∧ wr = w ∧ Hid (∀ j (hj : j < s.length), j < k → M.nameByte s[j] = true)) (fun i _ => s.length - (intOf i).toNat)
  case atStart => exact ⟨0, Nat.zero_le _, rfl, rfl, Lib.hid (fun j _ h => absurd h (Nat.not_lt_zero _))⟩
  case round =>
    obtain ⟨k, hk, rfl, rfl, hall⟩ := hrel
    by_cases hlt : k < s.length
    · obtain ⟨c, hgt⟩ : ∃ c, ∀ h, (⟨⟨s⟩⟩ : ByteArray)[k]'h = c := ⟨s[k], fun _ => rfl⟩
      have HC := Lib.hid (show s[k] = c from hgt hlt)
      have hc := c.toNat_lt
      have e1 : (c == 45) = decide (c.toNat = 45) := by rw [Bool.eq_iff_iff]; simp [← UInt8.toNat_inj]
      have e2 : (c == 95) = decide (c.toNat = 95) := by rw [Bool.eq_iff_iff]; simp [← UInt8.toNat_inj]
      have HN := Lib.hid (show M.nameByte c = ((decide (97 ≤ c.toNat) && decide (c.toNat ≤ 122)) || (decide (48 ≤ c.toNat) && decide (c.toNat ≤ 57)) || decide (c.toNat = 45) || decide (c.toNat = 95)) by rw [← e1, ← e2]; rfl)
      clear e1 e2
      have hno : ¬ ((97 ≤ c.toNat ∧ c.toNat ≤ 122) ∨ (48 ≤ c.toNat ∧ c.toNat ≤ 57) ∨ c.toNat = 45 ∨ c.toNat = 95) → M.nameByte s[k] = false := fun h => by
        rw [HC.out, HN.out, Bool.eq_false_iff]; simp; omega
      have hyes : ((97 ≤ c.toNat ∧ c.toNat ≤ 122) ∨ (48 ≤ c.toNat ∧ c.toNat ≤ 57) ∨ c.toNat = 45 ∨ c.toNat = 95) → ∀ j (hj : j < s.length), j < k + 1 → M.nameByte s[j] = true := fun h j hj hjk => by
        by_cases he : j = k
        · subst he; rw [HC.out, HN.out]; simp; omega
        · exact hall.out j hj (by omega)
      have HNO := Lib.hid hno
      have HYES := Lib.hid hyes
      clear hno hyes
      go_wp2
      all_goals first
        | (go_ret; refine ⟨ret_int (name_no hlt (HNO.out ?_)).symm, rfl⟩; clear HNO HYES HN HC hall hgt hsz; simp at *; omega)
        | (go_roundw
           case rel => (refine ⟨k + 1, by omega, by go_num, trivial, Lib.hid (HYES.out ?_)⟩; clear HNO HYES HN HC hall hgt hsz; simp at *; omega)
           case measure => (simp [intOf]; omega))
    · obtain rfl : k = s.length := by omega
      go_wp2
      go_ret
      exact ⟨ret_int (name_yes (by omega) (by omega) (fun j hj => hall.out j hj hj)).symm, rfl⟩
end Go.Proofs.YtcmbmbdjdkldoaaDoor
