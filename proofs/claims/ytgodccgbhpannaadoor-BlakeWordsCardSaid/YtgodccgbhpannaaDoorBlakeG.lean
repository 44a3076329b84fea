/- The program's digest of numbers. -/
import Derived.Test.YtgodccgbhpannaaDoorBlakeF
namespace Go.Proofs.YtgodccgbhpannaaDoor
open Go.RowKit

theorem digest_take (h : List Nat) (k : Nat) (hk : k < h.length) : M.digest (h.take (k + 1)) = M.digest (h.take k) ++ M.four (M.gt h k) := by
  rw [List.take_succ_eq_append_getElem hk, M.digest, List.flatMap_append]
  simp [M.digest, M.gt, List.getD_eq_getElem?_getD, hk]
theorem four_cells (x : Nat) : Lib.byteCells (M.four x) = [.int .u8 ((x : Int) % 256), .int .u8 ((x : Int) / 256 % 256), .int .u8 ((x : Int) / 65536 % 256), .int .u8 ((x : Int) / 16777216 % 256)] := by
  have e : ∀ n : Nat, (((UInt8.ofNat n).toNat : Nat) : Int) = (n : Int) % 256 := fun n => by
    rw [UInt8.toNat_ofNat']
    omega
  simp only [Lib.byteCells, M.four, List.map_cons, List.map_nil, e]
  simp

set_option maxHeartbeats 2000000 in
set_option maxRecDepth 100000 in
theorem digest_any (h : List Nat) (hl : h.length = 8) (hs : M.Small h) (w : World) :
    Calls Tryd.prog 14 #[.agg (c32 h)] w fun e w' => e = .returned (.string ⟨⟨M.digest h⟩⟩) ∧ Old w w' := by
  obtain ⟨i0, hi, hz0, hz1, hz2⟩ := info_parts infoByte
  obtain ⟨wb, ewb, hbb, hob, hsb⟩ : ∃ wb, w.alloc (.cells (c32 h) 29) = wb ∧ Blk wb w.heap.size (c32 h) 29 ∧ Old w wb ∧ w.heap.size + 1 = wb.heap.size := ⟨_, rfl, Blk.new w _ _, Old.alloc w _, by simp⟩
  obtain ⟨w1, hmk, hown0, hg0⟩ := run_make_own (P := Tryd.prog) wb w.heap.size 26 5 i0 (.int .u8 0) 1 Tryd.underlying26 hi hz0 hz1 .i64 .i64 32 (by rw [hz2]; decide) (by decide) (by omega)
  rw [show ((32 : Nat) : Int) = (32 : Int) from rfl] at hmk
  have HB := Lib.hid (hbb.grown hg0 (by intro h; cases h))
  have HO := Lib.hid (show Old w w1 from hob.trans ((Below.refl _ wb).grown hg0 (Nat.le_refl _) (fun g hg => by cases hg)))
  have HOWN := Lib.hid hown0
  clear hown0 hg0 hbb hob
  have HL := Lib.hid hl
  have HS := Lib.hid hs
  clear hl hs
  go_enter Tryd.func14, Tryd.ntmps14
  go_wp2_with (refine wpList_load_row rfl 29 (.tmp 1) rfl w.heap.size rfl 29 (c32 h) (0, 0) (.array 8 28) HB.out Tryd.underlying29 rfl (by rw [c32_size, HL.out]; exact size8) ?_)
  clear hmk ewb hsb
  go_loopw [3, 8] (fun o i wr => ∃ k : Nat, k ≤ 8 ∧ i = .int .i64 k ∧ wr.ownsRow w.heap.size 5 1 o (M.digest (h.take k)).length (Lib.byteCells (M.digest (h.take k))) ∧ Old w wr) (fun _ i _ => 8 - (intOf i).toNat)
  case atStart => exact ⟨0, Nat.zero_le _, rfl, HOWN.out, HO.out⟩
  case round =>
    obtain ⟨k, hk, rfl, hown, ho⟩ := hrel
    by_cases hlt : k < 8
    · have hp1 := digest_take h k (by rw [HL.out]; exact hlt)
      have hld := M.len_digest (h.take k)
      rw [List.length_take, HL.out, Nat.min_eq_left (by omega)] at hld
      have hx := M.gt_lt HS.out k
      have hix := index_num 29 8 h k Tryd.underlying29 hlt HL.out wr
      generalize M.digest (h.take k) = pk at *
      generalize M.gt h k = x at *
      have HF := Lib.hid (four_cells x)
      have HLF := Lib.hid (show (M.four x).length = 4 from rfl)
      have HP := Lib.hid hp1
      have HC3 := Lib.hid (show pk.length + 4 ≤ maxLen by unfold maxLen; omega)
      have HC4 := Lib.hid (show (pk.length + 4) * 1 ≤ 140737488355328 by omega)
      have hsz := ho.size
      have hown1 : (wr.alloc (.cells #[.int .u8 ((x : Int) % 256), .int .u8 ((x : Int) / 256 % 256), .int .u8 ((x : Int) / 65536 % 256), .int .u8 ((x : Int) / 16777216 % 256)] 5)).ownsRow w.heap.size 5 1 u3 pk.length (Lib.byteCells pk) := hown.alloc _
      have HNW := Lib.hid (World.news_of_block (heap_alloc_last wr (.cells #[.int .u8 ((x : Int) % 256), .int .u8 ((x : Int) / 256 % 256), .int .u8 ((x : Int) / 65536 % 256), .int .u8 ((x : Int) / 16777216 % 256)] 5)))
      have HC2 := Lib.hid (show ∀ u ∈ ([.int .u8 ((x : Int) % 256), .int .u8 ((x : Int) / 256 % 256), .int .u8 ((x : Int) / 65536 % 256), .int .u8 ((x : Int) / 16777216 % 256)] : List Value), u.oneCell' = true from by
        intro u hu
        simp only [List.mem_cons, List.not_mem_nil, or_false] at hu
        rcases hu with rfl | rfl | rfl | rfl <;> rfl)
      clear hld hp1
      go_wp2_with (at_builtin; refine wpList_append_own _ rfl _ _ 26 rfl w.heap.size 5 i0 (.int .u8 0) 1 1 Tryd.underlying26 hi hz0 hz1 hz2 rfl (by decide) _ _ _ rfl hown1 ⟨wr.heap.size, 0, none⟩ 4 4 [.int .u8 ((x : Int) % 256), .int .u8 ((x : Int) / 256 % 256), .int .u8 ((x : Int) / 65536 % 256), .int .u8 ((x : Int) / 16777216 % 256)] rfl rfl HNW.out HC2.out HC3.out HC4.out ?c5 ?_)
      case c5 => have : (wr.alloc (.cells #[.int .u8 ((x : Int) % 256), .int .u8 ((x : Int) / 256 % 256), .int .u8 ((x : Int) / 65536 % 256), .int .u8 ((x : Int) / 16777216 % 256)] 5)).heap.size = wr.heap.size + 1 := by simp
                 omega
      intro v' w2 hown2 hgrow _
      have ho2 : Old w w2 := Keep.old ((Keep.of_old (S := fun _ => False) (Below.alloc ho hsz _)).grown hgrow (fun g hg => Or.inl (row_from hown g hg))) (fun _ _ h => h)
      have hown3 : w2.ownsRow w.heap.size 5 1 v' (M.digest (h.take (k + 1))).length (Lib.byteCells (M.digest (h.take (k + 1)))) := by
        rw [HP.out, List.length_append, HLF.out]
        have e : Lib.byteCells (pk ++ M.four x) = Lib.byteCells pk ++ [.int .u8 ((x : Int) % 256), .int .u8 ((x : Int) / 256 % 256), .int .u8 ((x : Int) / 65536 % 256), .int .u8 ((x : Int) / 16777216 % 256)] := by rw [← HF.out]; simp [Lib.byteCells]
        rw [e]
        exact hown2
      have HOWN3 := Lib.hid hown3
      clear hown3 hown2
      go_wp2
      go_roundw
      case rel => exact ⟨k + 1, by omega, by go_num, HOWN3.out, ho2⟩
      case measure => simp [intOf]; omega
    · obtain rfl : k = 8 := by omega
      rw [List.take_of_length_le (by rw [HL.out]; exact Nat.le_refl _)] at hown
      have hconv := conv_row wr _ _ _ hown
      go_wp2
      go_ret
      exact ⟨rfl, ho⟩
end Go.Proofs.YtgodccgbhpannaaDoor
