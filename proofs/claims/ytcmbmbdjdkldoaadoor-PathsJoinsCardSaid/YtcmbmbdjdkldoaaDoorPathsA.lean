/- The program's small tests: parts of paths, bytes of names, whether a path is below another one. -/
import Derived.Test.YtcmbmbdjdkldoaaDoorFl
import Derived.Test.YtcmbmbdjdkldoaaDoorShelf
namespace Go.Proofs.YtcmbmbdjdkldoaaDoor
open Go.RowKit

theorem tl_beq (a b : List UInt8) : ((⟨⟨a⟩⟩ : ByteArray).toList == (⟨⟨b⟩⟩ : ByteArray).toList) = decide (a = b) := by
  rw [Bool.eq_iff_iff, ByteArray.toList_eq, ByteArray.toList_eq]
  simp
theorem size_mk (l : List UInt8) : (⟨⟨l⟩⟩ : ByteArray).size = l.length := rfl

/-- The cell of which strings.Split's road asks holds some number. -/
def Mx (w : World) : Prop := ∃ m, w.cell? ⟨0, 0, none⟩ = some (.int .i64 m)
theorem Mx.old {w w' : World} (h : Mx w) (k : Old w w') : Mx w' := by
  obtain ⟨m, h⟩ := h
  exact ⟨m, (k.cell (p := ⟨_, 0, none⟩) (World.block_lt_of_cell? _ _ h)).trans h⟩

theorem okPart_false {p : List UInt8} {k : Nat} (hk : k < p.length) (h : M.okByte p[k] = false) : M.okPart p = false := by
  unfold M.okPart
  have : p.all M.okByte = false := by
    rw [List.all_eq_false]
    exact ⟨p[k], List.getElem_mem hk, by rw [h]; simp⟩
  rw [this, Bool.and_false]
theorem okPart_true {p : List UInt8} (h1 : p ≠ []) (h2 : p ≠ [46]) (h3 : p ≠ [46, 46]) (h : ∀ j (hj : j < p.length), M.okByte p[j] = true) : M.okPart p = true := by
  have : p.all M.okByte = true := by
    rw [List.all_eq_true]
    intro x hx
    obtain ⟨j, hj, rfl⟩ := List.getElem_of_mem hx
    exact h j hj
  unfold M.okPart
  rw [this, beq_eq_false_iff_ne.2 h1, beq_eq_false_iff_ne.2 h2, beq_eq_false_iff_ne.2 h3]
  rfl

set_option maxHeartbeats 1000000 in
set_option maxRecDepth 100000 in
theorem isPart_any (p : List UInt8) (hl : p.length ≤ 1099511627776) (w : World) :
    Calls Tryd.prog 39 #[S p] w fun e w' => e = .returned (.bool (M.okPart p)) ∧ w' = w := by
  by_cases h1 : p = []
  · subst h1
    go_enter Tryd.func39, Tryd.ntmps39
    go_wp2
    go_ret
    exact ⟨rfl, rfl⟩
  by_cases h2 : p = [46]
  · subst h2
    go_enter Tryd.func39, Tryd.ntmps39
    go_wp2
    go_ret
    exact ⟨rfl, rfl⟩
  by_cases h3 : p = [46, 46]
  · subst h3
    go_enter Tryd.func39, Tryd.ntmps39
    go_wp2
    go_ret
    exact ⟨rfl, rfl⟩
  have e1 : p.isEmpty = false := by simpa using h1
  have e2 : (p == [46]) = false := beq_eq_false_iff_ne.2 h2
  have e3 : (p == [46, 46]) = false := beq_eq_false_iff_ne.2 h3
  have H1 := Lib.hid h1
  have H2 := Lib.hid h2
  have H3 := Lib.hid h3
  clear h1 h2 h3
  have hsz := size_mk p
  go_enter Tryd.func39, Tryd.ntmps39
  go_wp2
  go_loopw [3] (fun i wr => ∃ k : Nat, k ≤ p.length ∧ i = .int .i64 k ∧ wr = w ∧ Hid (∀ j (hj : j < p.length), j < k → M.okByte p[j] = true)) (fun i _ => p.length - (intOf i).toNat)
  case atStart => exact ⟨0, Nat.zero_le _, rfl, rfl, Lib.hid (fun j _ h => absurd h (Nat.not_lt_zero _))⟩
  case round =>
    obtain ⟨k, hk, rfl, rfl, hall⟩ := hrel
    by_cases hlt : k < p.length
    · obtain ⟨c, hgt⟩ : ∃ c, ∀ h, (⟨⟨p⟩⟩ : ByteArray)[k]'h = c := ⟨p[k], fun _ => rfl⟩
      have HC := Lib.hid (show p[k] = c from hgt hlt)
      by_cases hlo : c.toNat < 33
      · go_wp2
        go_ret
        exact ⟨ret_bool (okPart_false hlt (by rw [HC.out]; unfold M.okByte; rw [decide_eq_false (by omega), Bool.false_and])).symm, rfl⟩
      · by_cases hhi : 126 < c.toNat
        · go_wp2
          go_ret
          exact ⟨ret_bool (okPart_false hlt (by rw [HC.out]; unfold M.okByte; rw [decide_eq_false (p := c.toNat ≤ 126) (by omega), Bool.and_false])).symm, rfl⟩
        · go_wp2
          go_roundw
          case rel =>
            refine ⟨k + 1, by omega, by go_num, trivial, Lib.hid (fun j hj hjk => ?_)⟩
            by_cases he : j = k
            · subst he
              rw [HC.out]; unfold M.okByte; rw [decide_eq_true (by omega), decide_eq_true (by omega)]; rfl
            · exact hall.out j hj (by omega)
          case measure => simp [intOf]; omega
    · obtain rfl : k = p.length := by omega
      go_wp2
      go_ret
      exact ⟨ret_bool (okPart_true H1.out H2.out H3.out (fun j hj => hall.out j hj hj)).symm, rfl⟩

theorem nameByte_any (c : UInt8) (w : World) :
    Calls Tryd.prog 40 #[.int .u8 c.toNat] w fun e w' => e = .returned (.bool (M.nameByte c)) ∧ w' = w := by
  have hc := c.toNat_lt
  have e1 : (c == 45) = decide (c.toNat = 45) := by rw [Bool.eq_iff_iff]; simp [← UInt8.toNat_inj]
  have e2 : (c == 95) = decide (c.toNat = 95) := by rw [Bool.eq_iff_iff]; simp [← UInt8.toNat_inj]
  have HN := Lib.hid (show M.nameByte c = ((decide (97 ≤ c.toNat) && decide (c.toNat ≤ 122)) || (decide (48 ≤ c.toNat) && decide (c.toNat ≤ 57)) || decide (c.toNat = 45) || decide (c.toNat = 95)) by rw [← e1, ← e2]; rfl)
  clear e1 e2
  go_enter Tryd.func40, Tryd.ntmps40
  go_wp2
  all_goals (go_ret; refine ⟨ret_bool ?_, rfl⟩; rw [HN.out, Bool.eq_iff_iff]; simp; omega)

theorem hasPrefix_take (p t : List UInt8) : Lib.hasPrefix p t = (p.take t.length == t) := by
  unfold Lib.hasPrefix
  rw [Bool.eq_iff_iff, beq_iff_eq, List.isPrefixOf_iff_prefix, List.prefix_iff_eq_take]
  exact ⟨fun h => h.symm, fun h => h.symm⟩
theorem isBelow_any (p t : List UInt8) (_ : p.length ≤ 1099511627776) (ht : t.length ≤ 1099511627776) (w : World) :
    Calls Tryd.prog 47 #[S p, S t] w fun e w' => e = .returned (.bool (M.below p t)) ∧ w' = w := by
  have HP := Lib.hid (Tryd.strings_HasPrefix ⟨⟨p⟩⟩ ⟨⟨t⟩⟩ w)
  have h1 := size_mk p
  have h2 := size_mk t
  have HB := Lib.hid (show M.below p t = (decide (t.length + 1 < p.length) && (p[t.length]? == some 47) && (p.take t.length == t)) from rfl)
  by_cases hlt : t.length + 1 < p.length
  · obtain ⟨c, hgt⟩ : ∃ c, ∀ h, (⟨⟨p⟩⟩ : ByteArray)[t.length]'h = c := ⟨p[t.length], fun _ => rfl⟩
    have HC := Lib.hid (show p[t.length]? = some c by rw [List.getElem?_eq_getElem (by omega)]; exact congrArg some (hgt (by rw [h1]; omega)))
    have hcl := c.toNat_lt
    by_cases hc : c.toNat = 47
    · have hcn : c = 47 := UInt8.toNat_inj.1 hc
      go_enter Tryd.func47, Tryd.ntmps47
      go_wp2_with ((with_reducible refine HP.out.mono ?_); rintro e w1 ⟨rfl, rfl⟩)
      go_ret
      refine ⟨ret_bool ?_, rfl⟩
      rw [HB.out, HC.out, hcn, decide_eq_true hlt, hasPrefix_take]
      rfl
    · go_enter Tryd.func47, Tryd.ntmps47
      go_wp2
      go_ret
      refine ⟨ret_bool ?_, rfl⟩
      rw [HB.out, HC.out, decide_eq_true hlt]
      have : (some c == some 47) = false := beq_eq_false_iff_ne.2 (fun e => hc (by rw [Option.some.inj e]; rfl))
      rw [this]
      rfl
  · go_enter Tryd.func47, Tryd.ntmps47
    go_wp2
    go_ret
    exact ⟨ret_bool (by rw [HB.out, decide_eq_false hlt]; rfl), rfl⟩
end Go.Proofs.YtcmbmbdjdkldoaaDoor
