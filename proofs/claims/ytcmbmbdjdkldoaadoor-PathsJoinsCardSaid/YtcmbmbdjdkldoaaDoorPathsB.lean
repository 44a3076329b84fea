/- The program's names and paths. -/
import Derived.Test.YtcmbmbdjdkldoaaDoorPathsA
namespace Go.Proofs.YtcmbmbdjdkldoaaDoor
open Go.RowKit

theorem name_no {s : List UInt8} {k : Nat} (hk : k < s.length) (h : M.nameByte s[k] = false) : M.name s = 14 := by
  unfold M.name
  rw [if_neg]
  rintro ⟨_, _, h3⟩
  rw [List.all_eq_true.1 h3 _ (List.getElem_mem hk)] at h
  cases h
theorem name_yes {s : List UInt8} (h0 : 1 ≤ s.length) (h1 : s.length ≤ 16) (h : ∀ j (hj : j < s.length), M.nameByte s[j] = true) : M.name s = 0 := by
  unfold M.name
  rw [if_pos]
  refine ⟨h0, h1, List.all_eq_true.2 fun x hx => ?_⟩
  obtain ⟨j, hj, rfl⟩ := List.getElem_of_mem hx
  exact h j hj

set_option maxHeartbeats 1000000 in
set_option maxRecDepth 100000 in
theorem name_any (s : List UInt8) (hl : s.length ≤ maxLen) (w : World) :
    Calls Tryd.prog 19 #[S s] w fun e w' => e = .returned (.int .i64 (M.name s)) ∧ w' = w := by
  unfold maxLen at hl
  have hsz := size_mk s
  by_cases h1 : s = []
  · subst h1
    go_enter Tryd.func19, Tryd.ntmps19
    go_wp2
    go_ret
    exact ⟨rfl, rfl⟩
  have e1 : s.isEmpty = false := by simpa using h1
  have hpos : 1 ≤ s.length := List.length_pos_iff.2 h1
  by_cases h2 : 16 < s.length
  · go_enter Tryd.func19, Tryd.ntmps19
    go_wp2
    go_ret
    exact ⟨ret_int (by unfold M.name; rw [if_neg (by omega)]), rfl⟩
  clear h1
  go_enter Tryd.func19, Tryd.ntmps19
  go_wp2
  go_loopw [3] (fun i wr => ∃ k : Nat, k ≤ s.length ∧ i = .int .i64 k ∧ wr = w ∧ Hid (∀ j (hj : j < s.length), j < k → M.nameByte s[j] = true)) (fun i _ => s.length - (intOf i).toNat)
  case atStart => exact ⟨0, Nat.zero_le _, rfl, rfl, Lib.hid (fun j _ h => absurd h (Nat.not_lt_zero _))⟩
  case round =>
    obtain ⟨k, hk, rfl, rfl, hall⟩ := hrel
    by_cases hlt : k < s.length
    · obtain ⟨c, hgt⟩ : ∃ c, ∀ h, (⟨⟨s⟩⟩ : ByteArray)[k]'h = c := ⟨s[k], fun _ => rfl⟩
      have HC := Lib.hid (show s[k] = c from hgt hlt)
      have HN := Lib.hid (nameByte_any c wr)
      generalize hr : M.nameByte c = r at HN
      have HR := Lib.hid hr
      clear hr
      cases r with
      | false =>
        go_wp2_with ((with_reducible refine HN.out.mono ?_); rintro e w1 ⟨rfl, rfl⟩)
        go_ret
        exact ⟨ret_int (name_no hlt (by rw [HC.out]; exact HR.out)).symm, rfl⟩
      | true =>
        go_wp2_with ((with_reducible refine HN.out.mono ?_); rintro e w1 ⟨rfl, rfl⟩)
        go_roundw
        case rel =>
          refine ⟨k + 1, by omega, by go_num, trivial, Lib.hid (fun j hj hjk => ?_)⟩
          by_cases he : j = k
          · subst he
            rw [HC.out]; exact HR.out
          · exact hall.out j hj (by omega)
        case measure => simp [intOf]; omega
    · obtain rfl : k = s.length := by omega
      go_wp2
      go_ret
      exact ⟨ret_int (name_yes hpos (by omega) (fun j hj => hall.out j hj hj)).symm, rfl⟩

/-- The parts of a text, as strings.Split gives them. -/
def parts (s : List UInt8) : List ByteArray := Lib.splitB ⟨⟨[47]⟩⟩ 0 (Lib.countB ⟨⟨s⟩⟩ ⟨⟨[47]⟩⟩) ⟨⟨s⟩⟩
theorem parts_scan (s : List UInt8) : ((parts s).all fun b => M.okPart b.data.toList) = M.scan [] s := by
  have h := Lib.splitB_data ⟨⟨[47]⟩⟩ 0 (Lib.countB ⟨⟨s⟩⟩ ⟨⟨[47]⟩⟩) ⟨⟨s⟩⟩
  rw [← M.parts_all s.length s (Nat.le_refl _)]
  show _ = (Lib.splitK (⟨⟨[47]⟩⟩ : ByteArray).data.toList 0 (Lib.countB ⟨⟨s⟩⟩ ⟨⟨[47]⟩⟩) (⟨⟨s⟩⟩ : ByteArray).data.toList).all M.okPart
  rw [← h, List.all_map]
  rfl
theorem parts_len (s : List UInt8) : (parts s).length = Lib.countB ⟨⟨s⟩⟩ ⟨⟨[47]⟩⟩ + 1 := Lib.splitB_all ⟨⟨[47]⟩⟩ (by decide) 0 _ ⟨⟨s⟩⟩ rfl
theorem parts_small (n : Nat) (sep : ByteArray) (save : Nat) : ∀ (k : Nat) (s : ByteArray), s.size ≤ n → ∀ b ∈ Lib.splitB sep save k s, b.size ≤ n
  | 0, s, h, b, hb => by
      rw [Lib.splitB_zero, List.mem_singleton] at hb
      rw [hb]; exact h
  | k + 1, s, h, b, hb => by
      unfold Lib.splitB at hb
      split at hb
      · rw [List.mem_singleton] at hb
        rw [hb]; exact h
      · rcases List.mem_cons.1 hb with rfl | hb
        · rw [ByteArray.size_extract]; omega
        · exact parts_small n sep save k _ (by rw [ByteArray.size_extract]; omega) b hb

set_option maxHeartbeats 1000000 in
set_option maxRecDepth 100000 in
theorem path_any (s : List UInt8) (hl : s.length ≤ maxLen) (w : World) (hm : Mx w) :
    Calls Tryd.prog 17 #[S s] w fun e w' => e = .returned (.int .i64 (M.path s)) ∧ Old w w' := by
  unfold maxLen at hl
  have hsz := size_mk s
  by_cases h1 : 48 < s.length
  · go_enter Tryd.func17, Tryd.ntmps17
    go_wp2
    go_ret
    exact ⟨ret_int (by unfold M.path; rw [if_neg (by omega)]), Below.refl _ _⟩
  obtain ⟨m, hm⟩ := hm
  have HS := Lib.hid (Tryd.strings_Split ⟨⟨s⟩⟩ ⟨⟨[47]⟩⟩ m w (by rw [hsz]; omega) hm (by decide))
  have hps := parts_scan s
  have hpl := parts_len s
  have hsm := parts_small 48 ⟨⟨[47]⟩⟩ 0 (Lib.countB ⟨⟨s⟩⟩ ⟨⟨[47]⟩⟩) ⟨⟨s⟩⟩ (by rw [hsz]; omega)
  have hcl : Lib.countB ⟨⟨s⟩⟩ ⟨⟨[47]⟩⟩ ≤ s.length + 1 := Lib.count_le _ _
  rw [← parts] at hsm HS
  generalize parts s = ps at *
  generalize Lib.countB ⟨⟨s⟩⟩ ⟨⟨[47]⟩⟩ = n at *
  have hpa : M.path s = if (ps.all fun b => M.okPart b.data.toList) = true then 0 else 13 := by
    unfold M.path
    rw [hps]
    by_cases h : M.scan [] s = true
    · rw [if_pos ⟨by omega, h⟩, if_pos h]
    · rw [if_neg (fun x => h x.2), if_neg h]
  obtain ⟨w1, ew1, hb1, ho1⟩ : ∃ w1, w.alloc (.cells (ps.map Value.string).toArray 9) = w1 ∧ Blk w1 w.heap.size (ps.map Value.string).toArray 9 ∧ Old w w1 := ⟨_, rfl, Blk.new w _ _, Old.alloc w _⟩
  rw [ew1] at HS
  clear ew1 hm hps
  have HPA := Lib.hid hpa
  have HB1 := Lib.hid hb1
  have HO1 := Lib.hid ho1
  have HSM := Lib.hid hsm
  clear hpa hb1 ho1 hsm
  go_enter Tryd.func17, Tryd.ntmps17
  go_wp2_with ((with_reducible refine HS.out.mono ?_); rintro e w2 ⟨rfl, rfl⟩)
  go_loopw [11] (fun i wr => ∃ k : Nat, k ≤ n + 1 ∧ i = .int .i64 k ∧ wr = w2 ∧ Hid (∀ j (hj : j < ps.length), j < k → M.okPart ps[j].data.toList = true)) (fun i _ => n + 1 - (intOf i).toNat)
  case atStart => exact ⟨0, Nat.zero_le _, rfl, rfl, Lib.hid (fun j _ h => absurd h (Nat.not_lt_zero _))⟩
  case round =>
    obtain ⟨k, hk, rfl, rfl, hall⟩ := hrel
    by_cases hlt : k < n + 1
    · have hkp : k < ps.length := by omega
      have hcell := HB1.out.cellN k (v := .string ps[k]) (by simp [hkp])
      have hpk : ps[k].data.toList.length ≤ 1099511627776 := by
        have := HSM.out ps[k] (List.getElem_mem hkp)
        have e : ps[k].data.toList.length = ps[k].size := by simp
        omega
      have HI := Lib.hid (isPart_any ps[k].data.toList hpk wr)
      clear hpk
      have e0 : (S ps[k].data.toList) = .string ps[k] := rfl
      rw [e0] at HI
      generalize hr : M.okPart ps[k].data.toList = r at HI
      have HR := Lib.hid hr
      clear hr e0
      generalize ps[k] = b at hcell HI
      cases r with
      | false =>
        go_wp2_with ((with_reducible refine HI.out.mono ?_); rintro e w1 ⟨rfl, rfl⟩)
        go_ret
        refine ⟨ret_int ?_, HO1.out⟩
        rw [HPA.out, if_neg]
        intro h
        have := List.all_eq_true.1 h ps[k] (List.getElem_mem hkp)
        rw [HR.out] at this
        cases this
      | true =>
        go_wp2_with ((with_reducible refine HI.out.mono ?_); rintro e w1 ⟨rfl, rfl⟩)
        go_roundw
        case rel =>
          refine ⟨k + 1, by omega, by go_num, trivial, Lib.hid (fun j hj hjk => ?_)⟩
          by_cases he : j = k
          · subst he; exact HR.out
          · exact hall.out j hj (by omega)
        case measure => simp [intOf]; omega
    · obtain rfl : k = n + 1 := by omega
      go_wp2
      go_ret
      refine ⟨ret_int ?_, HO1.out⟩
      rw [HPA.out, if_pos]
      refine List.all_eq_true.2 fun x hx => ?_
      obtain ⟨j, hj, rfl⟩ := List.getElem_of_mem hx
      exact hall.out j hj (by omega)
end Go.Proofs.YtcmbmbdjdkldoaaDoor
