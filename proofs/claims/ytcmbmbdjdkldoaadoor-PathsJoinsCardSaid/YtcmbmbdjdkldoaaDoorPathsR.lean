/- The document's paths. -/
import Derived.Test.YtcmbmbdjdkldoaaDoorPathsQ
namespace Go.Proofs.YtcmbmbdjdkldoaaDoor
open Go.RowKit

theorem okPart_bytes {p : List UInt8} (h : p.all M.okByte = false) : M.okPart p = false := by
  unfold M.okPart
  rw [h, Bool.and_false]
theorem scan_bad : ∀ (r cur : List UInt8), cur.all M.okByte = false → M.scan cur r = false
  | [], cur, h => okPart_bytes h
  | c :: r, cur, h => by
      rw [M.scan]
      split
      · rw [okPart_bytes h, Bool.false_and]
      · exact scan_bad r _ (by rw [List.all_append, h, Bool.false_and])
theorem path_no {s : List UInt8} (h : M.scan [] s = false) : M.path s = 13 := by
  unfold M.path
  rw [if_neg]
  rintro ⟨_, h2⟩
  rw [h] at h2
  cases h2
theorem path_yes {s : List UInt8} (hl : s.length ≤ 48) (h : M.scan [] s = true) : M.path s = 0 := by
  unfold M.path
  rw [if_pos ⟨hl, h⟩]
theorem extract_mid (l : List UInt8) (a k : Nat) : (⟨⟨l⟩⟩ : ByteArray).extract a k = ⟨⟨(l.take k).drop a⟩⟩ := ba_eq (by rw [Lib.extract_data]; simp [List.drop_take])
theorem part_tests (p : List UInt8) (h : p.all M.okByte = true) : M.okPart p = !(p.isEmpty || p == [46] || p == [46, 46]) := by
  unfold M.okPart
  rw [h, Bool.and_true]
  cases p <;> simp

/-- Where the document's reader of a path stands. -/
def Reads (s : List UInt8) (a k : Nat) : Prop :=
  (k ≤ s.length ∧ a ≤ k ∧ M.scan [] s = M.scan ((s.take k).drop a) (s.drop k) ∧ ((s.take k).drop a).all M.okByte = true) ∨ (k = s.length + 1 ∧ a ≤ k ∧ M.scan [] s = true)
theorem Reads.start (s : List UInt8) : Reads s 0 0 := Or.inl ⟨Nat.zero_le _, Nat.le_refl _, by simp, by simp⟩
theorem take_drop_succ {s : List UInt8} {a k : Nat} (hk : k < s.length) (ha : a ≤ k) : (s.take (k + 1)).drop a = (s.take k).drop a ++ [s[k]] := by
  rw [List.take_succ_eq_append_getElem hk, List.drop_append_of_le_length (by simp; omega)]

set_option maxHeartbeats 4000000 in
set_option maxRecDepth 100000 in
theorem rpath_any (s : List UInt8) (hl : s.length ≤ maxLen) (w : World) :
    Calls Tryd.prog 18 #[S s] w fun e w' => e = .returned (.int .i64 (M.path s)) ∧ w' = w := by
  unfold maxLen at hl
  have hsz := size_mk s
  by_cases h1 : s.length < 1
  · go_enter Tryd.func18, Tryd.ntmps18
    go_wp2
    go_ret
    exact ⟨ret_int (path_no (by rw [List.eq_nil_of_length_eq_zero (show s.length = 0 by omega)]; rfl)).symm, rfl⟩
  by_cases h2 : 48 < s.length
  · go_enter Tryd.func18, Tryd.ntmps18
    go_wp2
    go_ret
    exact ⟨ret_int (by unfold M.path; rw [if_neg (by omega)]), rfl⟩
  go_enter Tryd.func18, Tryd.ntmps18
  go_wp2
  go_loopw [3, 4] (fun o i wr => ∃ a k : Nat, o = .int .i64 a ∧ i = .int .i64 k ∧ wr = w ∧ k ≤ s.length + 1 ∧ Hid (Reads s a k)) (fun _ i _ => s.length + 1 - (intOf i).toNat)
  case atStart => exact ⟨0, 0, rfl, rfl, rfl, Nat.zero_le _, Lib.hid (Reads.start s)⟩
  case round =>
    obtain ⟨a, k, rfl, rfl, rfl, hk, hr⟩ := hrel
    by_cases hend : k = s.length + 1
    · subst hend
      have hx : M.scan [] s = true := by
        rcases hr.out with ⟨h, _⟩ | ⟨_, _, h⟩
        · omega
        · exact h
      have hle : ¬ ((s.length : Int) + 1 ≤ (s.length : Int)) := by omega
      have HP := Lib.hid (path_yes (by omega) hx)
      clear hx
      go_wp2
      go_ret
      exact ⟨ret_int HP.out.symm, rfl⟩
    · obtain ⟨ha, hsc, hok⟩ : a ≤ k ∧ M.scan [] s = M.scan ((s.take k).drop a) (s.drop k) ∧ ((s.take k).drop a).all M.okByte = true := by
        rcases hr.out with ⟨_, h⟩ | ⟨h, _⟩
        · exact h
        · omega
      have hle : (k : Int) ≤ (s.length : Int) := by omega
      have hpt := part_tests _ hok
      have hex := extract_mid s a k
      have i1 : (a : Int) ≤ (k : Int) := by omega
      by_cases hlt : k < s.length
      · obtain ⟨c, hgt⟩ : ∃ c, ∀ h, (⟨⟨s⟩⟩ : ByteArray)[k]'h = c := ⟨s[k], fun _ => rfl⟩
        have hc : s[k] = c := hgt hlt
        rw [List.drop_eq_getElem_cons hlt, hc, M.scan] at hsc
        have hcl := c.toNat_lt
        by_cases hc47 : c.toNat = 47
        · rw [if_pos (UInt8.toNat_inj.1 (show c.toNat = (47 : UInt8).toNat from hc47))] at hsc
          have HNEXT := Lib.hid (show M.okPart ((s.take k).drop a) = true → Reads s (k + 1) (k + 1) from fun h => Or.inl ⟨by omega, Nat.le_refl _, by rw [hsc, h]; simp, by simp⟩)
          have HBAD := Lib.hid (show M.okPart ((s.take k).drop a) = false → M.path s = 13 from fun h => path_no (by rw [hsc, h]; rfl))
          clear hsc hok hr hc
          generalize (s.take k).drop a = p at *
          by_cases q1 : p = []
          · subst q1
            have HB := Lib.hid (HBAD.out rfl)
            clear HBAD HNEXT hpt
            go_wp2
            go_ret
            exact ⟨ret_int HB.out.symm, rfl⟩
          by_cases q2 : p = [46]
          · subst q2
            have HB := Lib.hid (HBAD.out rfl)
            clear HBAD HNEXT hpt
            go_wp2
            go_ret
            exact ⟨ret_int HB.out.symm, rfl⟩
          by_cases q3 : p = [46, 46]
          · subst q3
            have HB := Lib.hid (HBAD.out rfl)
            clear HBAD HNEXT hpt
            go_wp2
            go_ret
            exact ⟨ret_int HB.out.symm, rfl⟩
          have e1 : p.isEmpty = false := by simpa using q1
          have e2 : (p == [46]) = false := beq_eq_false_iff_ne.2 q2
          have e3 : (p == [46, 46]) = false := beq_eq_false_iff_ne.2 q3
          have HN := Lib.hid (HNEXT.out (by rw [hpt, e1, e2, e3]; rfl))
          clear q1 q2 q3 hpt HNEXT HBAD
          go_wp2
          go_roundw
          case rel => exact ⟨k + 1, k + 1, by go_num, by go_num, trivial, by omega, HN⟩
          case measure => simp [intOf]; omega
        · rw [if_neg (fun e => hc47 (by rw [e]; rfl))] at hsc
          by_cases hb : M.okByte c = true
          · have hb1 : 33 ≤ c.toNat ∧ c.toNat ≤ 126 := by unfold M.okByte at hb; simpa using hb
            have HN := Lib.hid (show Reads s a (k + 1) from Or.inl ⟨by omega, by omega, by rw [hsc, take_drop_succ hlt ha, hc], by rw [take_drop_succ hlt ha, hc, List.all_append, hok]; simp [hb]⟩)
            have hlo : ¬ ((c.toNat : Int) < 33) := by omega
            have hhi : ¬ ((126 : Int) < (c.toNat : Int)) := by omega
            have hne : ¬ ((c.toNat : Int) = 47) := by omega
            clear hsc hok hr hc hpt hex hb hb1
            go_wp2
            go_roundw
            case rel => exact ⟨a, k + 1, by go_num, by go_num, trivial, by omega, HN⟩
            case measure => simp [intOf]; omega
          · have hb0 : M.okByte c = false := by simpa using hb
            have hb1 : c.toNat < 33 ∨ 126 < c.toNat := by
              unfold M.okByte at hb0
              rw [Bool.and_eq_false_iff, decide_eq_false_iff_not, decide_eq_false_iff_not] at hb0
              omega
            have HB := Lib.hid (path_no (s := s) (by rw [hsc]; exact scan_bad _ _ (by rw [List.all_append]; simp [hb0])))
            have hne : ¬ ((c.toNat : Int) = 47) := by omega
            clear hsc hok hr hc hpt hex hb hb0
            rcases hb1 with hb1 | hb1
            · have hlo : (c.toNat : Int) < 33 := by omega
              go_wp2
              go_ret
              exact ⟨ret_int HB.out.symm, rfl⟩
            · have hlo : ¬ ((c.toNat : Int) < 33) := by omega
              have hhi : (126 : Int) < (c.toNat : Int) := by omega
              go_wp2
              go_ret
              exact ⟨ret_int HB.out.symm, rfl⟩
      · obtain rfl : k = s.length := by omega
        rw [List.drop_of_length_le (Nat.le_refl _), M.scan] at hsc
        have HNEXT := Lib.hid (show M.okPart ((s.take s.length).drop a) = true → Reads s (s.length + 1) (s.length + 1) from fun h => Or.inr ⟨rfl, Nat.le_refl _, by rw [hsc, h]⟩)
        have HBAD := Lib.hid (show M.okPart ((s.take s.length).drop a) = false → M.path s = 13 from fun h => path_no (by rw [hsc, h]))
        clear hsc hok hr
        generalize (s.take s.length).drop a = p at *
        by_cases q1 : p = []
        · subst q1
          have HB := Lib.hid (HBAD.out rfl)
          clear HBAD HNEXT hpt
          go_wp2
          go_ret
          exact ⟨ret_int HB.out.symm, rfl⟩
        by_cases q2 : p = [46]
        · subst q2
          have HB := Lib.hid (HBAD.out rfl)
          clear HBAD HNEXT hpt
          go_wp2
          go_ret
          exact ⟨ret_int HB.out.symm, rfl⟩
        by_cases q3 : p = [46, 46]
        · subst q3
          have HB := Lib.hid (HBAD.out rfl)
          clear HBAD HNEXT hpt
          go_wp2
          go_ret
          exact ⟨ret_int HB.out.symm, rfl⟩
        have e1 : p.isEmpty = false := by simpa using q1
        have e2 : (p == [46]) = false := beq_eq_false_iff_ne.2 q2
        have e3 : (p == [46, 46]) = false := beq_eq_false_iff_ne.2 q3
        have HN := Lib.hid (HNEXT.out (by rw [hpt, e1, e2, e3]; rfl))
        clear q1 q2 q3 hpt HNEXT HBAD
        go_wp2
        go_roundw
        case rel => exact ⟨s.length + 1, s.length + 1, by go_num, by go_num, trivial, by omega, HN⟩
        case measure => simp [intOf]
end Go.Proofs.YtcmbmbdjdkldoaaDoor
