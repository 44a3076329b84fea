/- The program's digest of numbers, and bytes in words. -/
import Derived.Test.YtgodccgbhpannaaDoorBlakeD
import Derived.Test.YtgodccgbhpannaaDoorRow
import Derived.Laws.MakeOwn
import Derived.Deep.AppendLies
import Derived.Deep.RegionLaw
import Derived.Deep.CutBlock
namespace Go.Proofs.YtgodccgbhpannaaDoor
open Go.RowKit

theorem wordS (c : UInt8) : M.word c = [97 + c / 16, 97 + c % 16] := rfl
theorem word_hi (c : UInt8) : (97 + c / 16 : UInt8).toNat = 97 + c.toNat / 16 := by
  have h := c.toNat_lt
  simp [UInt8.toNat_add, UInt8.toNat_div]
  omega
theorem word_lo (c : UInt8) : (97 + c % 16 : UInt8).toNat = 97 + c.toNat % 16 := by
  have h := c.toNat_lt
  simp [UInt8.toNat_add, UInt8.toNat_mod]
  omega
theorem len_words (l : List UInt8) : (M.words l).length = 2 * l.length := by
  unfold M.words
  induction l with
  | nil => rfl
  | cons x r ih => simp only [List.flatMap_cons, List.length_append, ih, M.word, List.length_cons, List.length_nil]; omega
theorem words_take (l : List UInt8) (k : Nat) (h : k < l.length) : M.words (l.take (k + 1)) = M.words (l.take k) ++ M.word l[k] := by
  rw [List.take_succ_eq_append_getElem h, M.words, List.flatMap_append]
  simp [M.words]

set_option maxHeartbeats 2000000 in
set_option maxRecDepth 100000 in
theorem words_any (s : ByteArray) (hs : s.size ≤ 1099511627776) (w : World) :
    Calls Tryd.prog 10 #[.string s] w fun e w' => e = .returned (.string ⟨⟨M.words s.data.toList⟩⟩) ∧ Old w w' := by
  obtain ⟨i0, hi, hz0, hz1, hz2⟩ := info_parts infoByte
  obtain ⟨w1, hmk, hown0, hg0⟩ := run_make_own (P := Tryd.prog) w w.heap.size 26 5 i0 (.int .u8 0) 1 Tryd.underlying26 hi hz0 hz1 .i64 .i64 (2 * s.size) (by rw [hz2]; omega) (by unfold maxLen; omega) (Nat.le_refl _)
  rw [show ((2 * s.size : Nat) : Int) = 2 * (s.size : Int) from by omega] at hmk
  have HO := Lib.hid (show Old w w1 from (Below.refl _ w).grown hg0 (Nat.le_refl _) (fun g hg => by cases hg))
  have HOWN := Lib.hid hown0
  clear hown0 hg0
  go_enter Tryd.func10, Tryd.ntmps10
  go_wp2
  clear hmk
  go_loopw [3, 11] (fun o i wr => ∃ k : Nat, k ≤ s.size ∧ i = .int .i64 k ∧ wr.ownsRow w.heap.size 5 1 o (M.words (s.data.toList.take k)).length (Lib.byteCells (M.words (s.data.toList.take k))) ∧ Old w wr) (fun _ i _ => s.size - (intOf i).toNat)
  case atStart => exact ⟨0, Nat.zero_le _, rfl, HOWN.out, HO.out⟩
  case round =>
    obtain ⟨k, hk, rfl, hown, ho⟩ := hrel
    have hsl : s.data.toList.length = s.size := by simp
    by_cases hlt : k < s.size
    · have hp1 := words_take s.data.toList k (by omega)
      have hlw := len_words (s.data.toList.take k)
      rw [List.length_take, Nat.min_eq_left (by omega)] at hlw
      have hgt : s.data.toList[k]'(by omega) = s[k]'hlt := by simp; rfl
      rw [hgt] at hp1
      clear hgt
      obtain ⟨c, hgt⟩ : ∃ c, s[k]'hlt = c := ⟨_, rfl⟩
      rw [hgt] at hp1
      generalize M.words (s.data.toList.take k) = pk at *
      have hcl := c.toNat_lt
      have hand : bits .and .u8 (c.toNat : Int) 15 = ((c.toNat % 16 : Nat) : Int) := by
        have := u8_and_nat c.toNat 15 hcl (by decide)
        rw [nat_mask4] at this
        exact this
      have HP := Lib.hid hp1
      have HW1 := Lib.hid (word_hi c)
      have HW2 := Lib.hid (word_lo c)
      have hw1 : IntKind.u8.wrap (97 + (c.toNat : Int) / 16) = 97 + (c.toNat : Int) / 16 := IntWalk.u8_in _ (by omega)
      have hw2 : IntKind.u8.wrap (97 + (c.toNat : Int) % 16) = 97 + (c.toNat : Int) % 16 := IntWalk.u8_in _ (by omega)
      clear hp1
      go_upto_region 5 with (fail)
      have hsz := ho.size
      have HC2 := Lib.hid (show ∀ u ∈ [Value.int .u8 (97 + (c.toNat : Int) / 16), Value.int .u8 (97 + (c.toNat : Int) % 16)], u.oneCell' = true from by
        intro u hu
        rcases List.mem_cons.1 hu with rfl | hu
        · rfl
        · rw [List.mem_singleton.1 hu]; rfl)
      have HC3 := Lib.hid (show pk.length + 2 ≤ maxLen by unfold maxLen; omega)
      have HC4 := Lib.hid (show (pk.length + 2) * 1 ≤ 140737488355328 by omega)
      clear hlw
      apply cut_here
      · intro key
        go_region_law ((refine step_append_lies _ (by rfl) _ _ _ (by rfl) w.heap.size 5 i0 (.int .u8 0) 1 1 Tryd.underlying26 hi hz0 hz1 hz2 (by rfl) (by decide) u3 pk.length (Lib.byteCells pk) (by rfl) (hown.alloc _).drew ⟨wr.heap.size, 0, none⟩ 2 2 [.int .u8 (97 + (c.toNat : Int) / 16), .int .u8 (97 + (c.toNat : Int) % 16)] (by rfl) (by rfl) (World.news_of_block (fr := (0, 0)) (t := 5) (cs := #[.int .u8 (97 + (c.toNat : Int) / 16), .int .u8 (97 + (c.toNat : Int) % 16)]) (heap_alloc_last wr _)) HC2.out (by decide) HC3.out HC4.out (by simp; omega) _ rfl ?_); intro g cap w2 hown2 hgrow hat hlt2)
        · revert g cap w2 hown2 hgrow hat hlt2; exact key.out
        · revert g cap w2 hown2 hgrow hat hlt2; exact key.out
      intro g cap w2 hown2 hgrow _ _
      have ho2 : Old w w2 := Keep.old ((Keep.of_old (S := fun _ => False) (Below.drew (Below.alloc ho hsz _))).grown hgrow (fun g hg => Or.inl (row_from hown g hg))) (fun _ _ h => h)
      have hlen2 : pk.length + 2 = (pk ++ M.word c).length := by rw [List.length_append, wordS]; rfl
      have HL2 := Lib.hid hlen2
      clear hlen2
      go_wp2
      go_roundw
      case rel => exact ⟨k + 1, by omega, by go_num, by rw [HP.out, ← HL2.out]; simpa [Lib.byteCells, M.word, HW1.out, HW2.out] using hown2, ho2⟩
      case measure => simp [intOf]; omega
    · obtain rfl : k = s.size := by omega
      rw [List.take_of_length_le (by omega)] at hown
      have hconv := conv_row wr _ _ _ hown
      go_wp2
      go_ret
      exact ⟨rfl, ho⟩
end Go.Proofs.YtgodccgbhpannaaDoor
