/- The document's bytes in words; what the chapter's examples say. -/
import Derived.Test.YtgodccgbhpannaaDoorBlakeH
namespace Go.Proofs.YtgodccgbhpannaaDoor
open Go.RowKit

set_option maxHeartbeats 2000000 in
set_option maxRecDepth 100000 in
theorem rwords_any (s : ByteArray) (hs : s.size ≤ 1099511627776) (w : World) :
    Calls Tryd.prog 11 #[.string s] w fun e w' => e = .returned (.string ⟨⟨M.words s.data.toList⟩⟩) ∧ Old w w' := by
  obtain ⟨i0, hi, hz0, hz1, hz2⟩ := info_parts infoByte
  go_enter Tryd.func11, Tryd.ntmps11
  go_wp2
  go_loopw [3, 4] (fun o i wr => ∃ k : Nat, k ≤ s.size ∧ i = .int .i64 k ∧ wr.ownsRow w.heap.size 5 1 o (M.words (s.data.toList.take k)).length (Lib.byteCells (M.words (s.data.toList.take k))) ∧ Old w wr) (fun _ i _ => s.size - (intOf i).toNat)
  case atStart => exact ⟨0, Nat.zero_le _, rfl, World.ownsRow_nil _ _ _ _, Below.refl _ _⟩
  case round =>
    obtain ⟨k, hk, rfl, hown, ho⟩ := hrel
    have hsl : s.data.toList.length = s.size := by simp
    by_cases hlt : k < s.size
    · have hp1 := words_take s.data.toList k (by omega)
      have hlw := len_words (s.data.toList.take k)
      rw [List.length_take, Nat.min_eq_left (by omega)] at hlw
      have hgt : s.data.toList[k]'(by omega) = s[k]'hlt := by simp; rfl
      rw [hgt] at hp1
      clear hgt
      obtain ⟨c, hgt⟩ : ∃ c, s[k]'hlt = c := ⟨_, rfl⟩
      rw [hgt] at hp1
      generalize M.words (s.data.toList.take k) = pk at *
      have hcl := c.toNat_lt
      have hw0 : IntKind.u8.wrap ((c.toNat : Int) / 16) = (c.toNat : Int) / 16 := IntWalk.u8_in _ (by omega)
      have hq1 : (c.toNat : Int).tdiv 16 = (c.toNat : Int) / 16 := Int.tdiv_eq_ediv_of_nonneg (by omega)
      have hq2 : (c.toNat : Int).tmod 16 = (c.toNat : Int) % 16 := Int.tmod_eq_emod_of_nonneg (by omega)
      have HP := Lib.hid hp1
      have HW1 := Lib.hid (word_hi c)
      have HW2 := Lib.hid (word_lo c)
      have hw1 : IntKind.u8.wrap (97 + (c.toNat : Int) / 16) = 97 + (c.toNat : Int) / 16 := IntWalk.u8_in _ (by omega)
      have hw2 : IntKind.u8.wrap (97 + (c.toNat : Int) % 16) = 97 + (c.toNat : Int) % 16 := IntWalk.u8_in _ (by omega)
      clear hp1
      go_upto_region 5 with (fail)
      have hsz := ho.size
      have HC2 := Lib.hid (show ∀ u ∈ [Value.int .u8 (97 + (c.toNat : Int) / 16), Value.int .u8 (97 + (c.toNat : Int) % 16)], u.oneCell' = true from by
        intro u hu
        rcases List.mem_cons.1 hu with rfl | hu
        · rfl
        · rw [List.mem_singleton.1 hu]; rfl)
      have HC3 := Lib.hid (show pk.length + 2 ≤ maxLen by unfold maxLen; omega)
      have HC4 := Lib.hid (show (pk.length + 2) * 1 ≤ 140737488355328 by omega)
      clear hlw
      apply cut_here
      · intro key
        go_region_law ((refine step_append_lies _ (by rfl) _ _ _ (by rfl) w.heap.size 5 i0 (.int .u8 0) 1 1 Tryd.underlying26 hi hz0 hz1 hz2 (by rfl) (by decide) u3 pk.length (Lib.byteCells pk) (by rfl) (hown.alloc _).drew ⟨wr.heap.size, 0, none⟩ 2 2 [.int .u8 (97 + (c.toNat : Int) / 16), .int .u8 (97 + (c.toNat : Int) % 16)] (by rfl) (by rfl) (World.news_of_block (fr := (0, 0)) (t := 5) (cs := #[.int .u8 (97 + (c.toNat : Int) / 16), .int .u8 (97 + (c.toNat : Int) % 16)]) (heap_alloc_last wr _)) HC2.out (by decide) HC3.out HC4.out (by simp; omega) _ rfl ?_); intro g cap w2 hown2 hgrow hat hlt2)
        · revert g cap w2 hown2 hgrow hat hlt2; exact key.out
        · revert g cap w2 hown2 hgrow hat hlt2; exact key.out
      intro g cap w2 hown2 hgrow _ _
      have ho2 : Old w w2 := Keep.old ((Keep.of_old (S := fun _ => False) (Below.drew (Below.alloc ho hsz _))).grown hgrow (fun g hg => Or.inl (row_from hown g hg))) (fun _ _ h => h)
      have hlen2 : pk.length + 2 = (pk ++ M.word c).length := by rw [List.length_append, wordS]; rfl
      have HL2 := Lib.hid hlen2
      clear hlen2
      go_wp2
      go_roundw
      case rel => exact ⟨k + 1, by omega, by go_num, by rw [HP.out, ← HL2.out]; simpa [Lib.byteCells, M.word, HW1.out, HW2.out] using hown2, ho2⟩
      case measure => simp [intOf]; omega
    · obtain rfl : k = s.size := by omega
      rw [List.take_of_length_le (by omega)] at hown
      have hconv := conv_row wr _ _ _ hown
      go_wp2
      go_ret
      exact ⟨rfl, ho⟩

set_option maxHeartbeats 1000000 in
set_option maxRecDepth 100000 in
theorem awake_any (w : World) (ht : Tabs w) :
    Calls Tryd.prog 9 #[] w fun e w' => e = .returned (.bool true) ∧ Old w w' := by
  have G1 := Lib.hid (show Calls Tryd.prog 7 #[.string ⟨#[97, 98, 99]⟩] w (fun e w' => e = .returned (.string ⟨#[80, 140, 94, 140, 50, 124, 20, 226, 225, 167, 43, 163, 78, 235, 69, 47, 55, 69, 139, 32, 158, 214, 58, 41, 77, 153, 155, 76, 134, 103, 89, 130]⟩) ∧ Old w w') from by
    have := sum_any ⟨#[97, 98, 99]⟩ (by decide) w ht
    rw [show (ByteArray.mk #[97, 98, 99]).data.toList = [97, 98, 99] from rfl, M.abc] at this
    exact this)
  have G2 := Lib.hid (fun w1 => (show Calls Tryd.prog 10 #[.string ⟨#[0, 31]⟩] w1 (fun e w' => e = .returned (.string ⟨#[97, 97, 98, 112]⟩) ∧ Old w1 w') from by
    have := words_any ⟨#[0, 31]⟩ (by decide) w1
    rw [show (ByteArray.mk #[0, 31]).data.toList = [0, 31] from rfl, M.w2] at this
    exact this))
  go_enter Tryd.func9, Tryd.ntmps9
  go_wp2_with (first
    | ((with_reducible refine G1.out.mono ?_); rintro e w1 ⟨rfl, o1⟩)
    | ((with_reducible refine (G2.out _).mono ?_); rintro e w2 ⟨rfl, o2⟩))
  go_ret
  exact ⟨rfl, o1.trans o2⟩
end Go.Proofs.YtgodccgbhpannaaDoor
