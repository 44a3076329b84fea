/- The program's numbers of a block. -/
import Derived.Test.YtgodccgbhpannaaDoorBlakeD
import Derived.Lib.BufferWrite
namespace Go.Proofs.YtgodccgbhpannaaDoor
open Go.RowKit

def pad (d : List UInt8) : List Nat := (List.range 64).map (M.byte d)
theorem len_pad (d : List UInt8) : (pad d).length = 64 := by simp [pad]
theorem pad_at (d : List UInt8) (i : Nat) (hi : i < 64) : M.gt (pad d) i = M.byte d i := by
  simp [pad, M.gt, List.getD_eq_getElem?_getD, hi]
theorem pad_cells (d : List UInt8) (h : d.length ≤ 64) (z : List Value) (hz : z.length = 64) (hz0 : ∀ i (hi : i < z.length), z[i] = Value.int .u8 0) : (Lib.byteCells d ++ z.drop d.length).toArray = c8 (pad d) := by
  unfold c8 pad Lib.byteCells
  congr 1
  apply List.ext_getElem
  · simp [hz]; omega
  · intro i h1 h2
    simp at h2
    rw [List.getElem_append]
    split
    · rename_i hi
      simp at hi
      simp [M.byte, List.getD_eq_getElem?_getD, hi]
    · rename_i hi
      simp at hi
      have : d[i]? = none := List.getElem?_eq_none hi
      rw [List.getElem_drop, hz0]
      simp [M.byte, List.getD_eq_getElem?_getD, this]
theorem size1b : (Tryd.prog.info? 5).map (·.size) = some 1 := by kernel_rfl
theorem zeros_at (n i : Nat) (hi : i < n) : (c8 (List.replicate n 0)).toList[i]? = some (Value.int .u8 0) := by
  simp [c8, hi]
theorem copy_data (w : World) (b : Nat) (T : TypeId) (d : ByteArray) (h : d.size ≤ 64) (hb : Blk w b (c8 (List.replicate 64 0)) T) :
    (Builtin.copy_ #[26, 9] 3 #[.slice (some ⟨b, 0, none⟩) 64 64, .string d]).run Tryd.prog w = .ok (goInt d.size) (w.setRow b (c8 (pad d.data.toList))) := by
  have hl : (c8 (List.replicate 64 0)).toList.length = 64 := by rw [Array.length_toList, c8_size, List.length_replicate]
  have := Lib.run_copy_row_string (P := Tryd.prog) w 26 9 3 5 b 0 64 64 d (c8 (List.replicate 64 0)) T Tryd.underlying26 size1b hb h (by rw [c8_size, List.length_replicate]; omega)
  rw [this]
  congr 2
  rw [List.take_zero, List.nil_append, Nat.zero_add]
  exact pad_cells d.data.toList (by simpa using h) _ hl (fun i hi => by
    have := zeros_at 64 i (by omega)
    rw [List.getElem?_eq_getElem hi] at this
    exact Option.some.inj this)
theorem two_blocks (w : World) : ∃ w2 bb, ((w.alloc (.cells #[.int .u32 0, .int .u32 0, .int .u32 0, .int .u32 0, .int .u32 0, .int .u32 0, .int .u32 0, .int .u32 0, .int .u32 0, .int .u32 0, .int .u32 0, .int .u32 0, .int .u32 0, .int .u32 0, .int .u32 0, .int .u32 0] 32)).alloc (.cells #[.int .u8 0, .int .u8 0, .int .u8 0, .int .u8 0, .int .u8 0, .int .u8 0, .int .u8 0, .int .u8 0, .int .u8 0, .int .u8 0, .int .u8 0, .int .u8 0, .int .u8 0, .int .u8 0, .int .u8 0, .int .u8 0, .int .u8 0, .int .u8 0, .int .u8 0, .int .u8 0, .int .u8 0, .int .u8 0, .int .u8 0, .int .u8 0, .int .u8 0, .int .u8 0, .int .u8 0, .int .u8 0, .int .u8 0, .int .u8 0, .int .u8 0, .int .u8 0, .int .u8 0, .int .u8 0, .int .u8 0, .int .u8 0, .int .u8 0, .int .u8 0, .int .u8 0, .int .u8 0, .int .u8 0, .int .u8 0, .int .u8 0, .int .u8 0, .int .u8 0, .int .u8 0, .int .u8 0, .int .u8 0, .int .u8 0, .int .u8 0, .int .u8 0, .int .u8 0, .int .u8 0, .int .u8 0, .int .u8 0, .int .u8 0, .int .u8 0, .int .u8 0, .int .u8 0, .int .u8 0, .int .u8 0, .int .u8 0, .int .u8 0, .int .u8 0] 45)) = w2 ∧ w.heap.size + 1 = bb ∧ w2.heap.size = bb + 1 ∧
    Old w w2 ∧ Blk w2 w.heap.size (c32 (List.replicate 16 0)) 32 ∧ Blk w2 bb (c8 (List.replicate 64 0)) 45 := by
  refine ⟨_, _, rfl, rfl, by simp, ?_, ?_, ?_⟩
  · exact Below.alloc (Old.alloc w _) (by simp) _
  · exact (Blk.new w _ _).alloc _
  · have := Blk.new (w.alloc (.cells #[.int .u32 0, .int .u32 0, .int .u32 0, .int .u32 0, .int .u32 0, .int .u32 0, .int .u32 0, .int .u32 0, .int .u32 0, .int .u32 0, .int .u32 0, .int .u32 0, .int .u32 0, .int .u32 0, .int .u32 0, .int .u32 0] 32)) #[.int .u8 0, .int .u8 0, .int .u8 0, .int .u8 0, .int .u8 0, .int .u8 0, .int .u8 0, .int .u8 0, .int .u8 0, .int .u8 0, .int .u8 0, .int .u8 0, .int .u8 0, .int .u8 0, .int .u8 0, .int .u8 0, .int .u8 0, .int .u8 0, .int .u8 0, .int .u8 0, .int .u8 0, .int .u8 0, .int .u8 0, .int .u8 0, .int .u8 0, .int .u8 0, .int .u8 0, .int .u8 0, .int .u8 0, .int .u8 0, .int .u8 0, .int .u8 0, .int .u8 0, .int .u8 0, .int .u8 0, .int .u8 0, .int .u8 0, .int .u8 0, .int .u8 0, .int .u8 0, .int .u8 0, .int .u8 0, .int .u8 0, .int .u8 0, .int .u8 0, .int .u8 0, .int .u8 0, .int .u8 0, .int .u8 0, .int .u8 0, .int .u8 0, .int .u8 0, .int .u8 0, .int .u8 0, .int .u8 0, .int .u8 0, .int .u8 0, .int .u8 0, .int .u8 0, .int .u8 0, .int .u8 0, .int .u8 0, .int .u8 0, .int .u8 0] 45
    simp at this
    exact this
def numsTo (d : List UInt8) (k : Nat) : List Nat := (List.range 16).map fun i => if i < k then M.num d i else 0
theorem len_numsTo (d : List UInt8) (k : Nat) : (numsTo d k).length = 16 := by simp [numsTo]
theorem numsTo_all (d : List UInt8) : numsTo d 16 = M.nums d := by
  unfold numsTo M.nums
  apply List.map_congr_left
  intro i hi
  rw [if_pos (List.mem_range.1 hi)]
theorem numsTo_step (d : List UInt8) (k : Nat) : (numsTo d k).set k (M.num d k) = numsTo d (k + 1) := by
  apply List.ext_getElem
  · simp [len_numsTo]
  · intro i h1 h2
    rw [List.getElem_set]
    by_cases hik : k = i
    · subst hik
      simp [numsTo]
    · have e : (i < k + 1) ↔ (i < k) := by omega
      simp [numsTo, hik, e]

theorem or_sum (i x y : Nat) (hx : x % 2 ^ i = 0) (hy : y < 2 ^ i) : y ||| x = x + y := by rw [Nat.or_comm]; exact nat_join i x y hx hy
theorem four_or (x0 x1 x2 x3 : Nat) (h0 : x0 < 256) (h1 : x1 < 256) (h2 : x2 < 256) (h3 : x3 < 256) :
    bits .or .u32 (bits .or .u32 (bits .or .u32 (x0 : Int) ((x1 : Int) * 256)) ((x2 : Int) * 65536)) ((x3 : Int) * 16777216) = ((x0 + 256 * x1 + 65536 * x2 + 16777216 * x3 : Nat) : Int) := by
  have s1 : x0 ||| x1 * 256 = x0 + 256 * x1 := by rw [or_sum 8 _ _ (by omega) (by omega)]; omega
  have s2 : (x0 + 256 * x1) ||| x2 * 65536 = x0 + 256 * x1 + 65536 * x2 := by rw [or_sum 16 _ _ (by omega) (by omega)]; omega
  have s3 : (x0 + 256 * x1 + 65536 * x2) ||| x3 * 16777216 = x0 + 256 * x1 + 65536 * x2 + 16777216 * x3 := by rw [or_sum 24 _ _ (by omega) (by omega)]; omega
  have e1 := u32_or_nat x0 (x1 * 256) (by omega) (by omega)
  have e2 := u32_or_nat (x0 + 256 * x1) (x2 * 65536) (by omega) (by omega)
  have e3 := u32_or_nat (x0 + 256 * x1 + 65536 * x2) (x3 * 16777216) (by omega) (by omega)
  rw [show ((x1 : Int) * 256) = ((x1 * 256 : Nat) : Int) from by omega, show ((x2 : Int) * 65536) = ((x2 * 65536 : Nat) : Int) from by omega, show ((x3 : Int) * 16777216) = ((x3 * 16777216 : Nat) : Int) from by omega, e1, s1, e2, s2, e3, s3]

set_option maxHeartbeats 4000000 in
set_option maxRecDepth 100000 in
theorem numbers_any (d : ByteArray) (hd : d.size ≤ 64) (w : World) :
    Calls Tryd.prog 13 #[.string d] w fun e w' => e = .returned (.agg (c32 (M.nums d.data.toList))) ∧ Old w w' := by
  go_enter Tryd.func13, Tryd.ntmps13
  go_upto_region 2 with (fail)
  obtain ⟨w2, bb, e2, eb, hsz, ho2, hb0, hb1⟩ := two_blocks w
  rw [e2, eb]
  clear e2
  have hcp := copy_data w2 bb _ d hd hb1
  have hB1 : Blk (w2.setRow bb (c8 (pad d.data.toList))) bb (c8 (pad d.data.toList)) 45 := hb1.setRow _
  have hB0 : Blk (w2.setRow bb (c8 (pad d.data.toList))) w.heap.size (c32 (List.replicate 16 0)) 32 := hb0.keep ((Keep.refl (· = bb) w2).setRow (Or.inr rfl) _) (by omega)
  have hO3 : Old w (w2.setRow bb (c8 (pad d.data.toList))) := below_setRow ho2 (by omega) _
  have hs3 : (w2.setRow bb (c8 (pad d.data.toList))).heap.size = bb + 1 := by rw [setRow_size, hsz]
  have HB1 := Lib.hid hB1
  have HB0 := Lib.hid hB0
  have HO3 := Lib.hid hO3
  have HS3 := Lib.hid hs3
  clear hb0 hb1 hB1 hB0 hO3 hs3 ho2
  go_upto_region 3 with (fail)
  generalize w2.setRow bb (c8 (pad d.data.toList)) = w3 at *
  obtain ⟨w4, e4, ho4, hb4⟩ : ∃ w4, w3.alloc (.cells #[.int .u32 0, .int .u32 0, .int .u32 0, .int .u32 0, .int .u32 0, .int .u32 0, .int .u32 0, .int .u32 0, .int .u32 0, .int .u32 0, .int .u32 0, .int .u32 0, .int .u32 0, .int .u32 0, .int .u32 0, .int .u32 0] 32) = w4 ∧ Old w3 w4 ∧ Blk w4 (bb + 1) (c32 (numsTo d.data.toList 0)) 32 :=
    ⟨_, rfl, Old.alloc _ _, by rw [← HS3.out]; exact Blk.new w3 _ _⟩
  have hs3 := HS3.out
  have HB1' := Lib.hid (HB1.out.old ho4)
  have HB0' := Lib.hid (HB0.out.old ho4)
  have HO4 := Lib.hid (HO3.out.trans ho4)
  have HB4 := Lib.hid hb4
  clear ho4 hb4 HB1 HB0 HO3 hcp
  go_wp2
  clear e4 hs3 HS3
  go_loopw [5, 10] (fun _ i wr => ∃ k : Nat, k ≤ 16 ∧ i = .int .i64 k ∧ Blk wr (bb + 1) (c32 (numsTo d.data.toList k)) 32 ∧ Keep (· = bb + 1) w4 wr) (fun _ i _ => 16 - (intOf i).toNat)
  case atStart => exact ⟨0, by decide, rfl, HB4.out, Keep.refl _ _⟩
  case round =>
    obtain ⟨k, hk, rfl, hb, kk⟩ := hrel
    have HB := Lib.hid hb
    have KK := Lib.hid kk
    clear hb kk
    by_cases hlt : k < 16
    · have hbb : Blk wr bb (c8 (pad d.data.toList)) 45 := HB1'.out.keep KK.out (by omega)
      have hpl := len_pad d.data.toList
      have c0 := hbb.cellN (4 * k) (c8_at (by omega))
      have c1 := hbb.cellN (4 * k + 1) (c8_at (by omega))
      have c2 := hbb.cellN (4 * k + 2) (c8_at (by omega))
      have c3 := hbb.cellN (4 * k + 3) (c8_at (by omega))
      rw [pad_at _ _ (by omega)] at c0 c1 c2 c3
      have b0 := M.byte_lt d.data.toList (4 * k)
      have b1 := M.byte_lt d.data.toList (4 * k + 1)
      have b2 := M.byte_lt d.data.toList (4 * k + 2)
      have b3 := M.byte_lt d.data.toList (4 * k + 3)
      have HNUM := Lib.hid (show M.num d.data.toList k = M.byte d.data.toList (4 * k) + 256 * M.byte d.data.toList (4 * k + 1) + 65536 * M.byte d.data.toList (4 * k + 2) + 16777216 * M.byte d.data.toList (4 * k + 3) from rfl)
      generalize M.byte d.data.toList (4 * k) = x0 at *
      generalize M.byte d.data.toList (4 * k + 1) = x1 at *
      generalize M.byte d.data.toList (4 * k + 2) = x2 at *
      generalize M.byte d.data.toList (4 * k + 3) = x3 at *
      have hf := HB.out.free k
      have hce := HB.out.cellN k (c32_at (by rw [len_numsTo]; exact hlt))
      have i1 : (k : Int) < 16 := by omega
      have i2 : (0 : Int) ≤ (k : Int) := by omega
      clear hbb hpl
      have l1 : (0 : Int) ≤ 4 * (k : Int) := by omega
      have l2 : 4 * (k : Int) ≤ 4 * (k : Int) + 4 := by omega
      have l3 : 4 * (k : Int) + 4 ≤ 64 := by omega
      have l4 : (4 * (k : Int)).toNat = 4 * k := by omega
      have l5 : (4 * (k : Int) + 4).toNat = 4 * k + 4 := by omega

      go_wp2
      clear l1 l2 l3 l4 l5
      go_still_tail 24, (by kernel_rfl)
      change wpList _ _ _ _ _ wr.drew
      have HOR := Lib.hid (four_or x0 x1 x2 x3 b0 b1 b2 b3)
      go_wp2
      go_roundw
      case rel =>
        refine ⟨k + 1, by omega, by go_num, ?_, (KK.out.setCell (Or.inr rfl) _).drew⟩
        have := HB.out.c32_set k (M.num d.data.toList k)
        rw [numsTo_step, HNUM.out, ← HOR.out] at this
        exact this
      case measure => simp [intOf]; omega
    · obtain rfl : k = 16 := by omega
      have hf : Blk wr (bb + 1) (c32 (M.nums d.data.toList)) 32 := by rw [← numsTo_all]; exact HB.out
      have hr : Blk wr w.heap.size (c32 (List.replicate 16 0)) 32 := HB0'.out.keep KK.out (by omega)
      have hof : Old w wr := Below.trans HO4.out (KK.out.below HO4.out.size (fun q hq => by omega))
      have hs16 : (c32 (M.nums d.data.toList)).size = 16 := by rw [c32_size, M.len_nums]
      have hsc := storeCells_blk wr w.heap.size (c32 (List.replicate 16 0)) (c32 (M.nums d.data.toList)) 32 hr (by rw [hs16]; exact size16) (by rw [hs16]; rfl) (one32a _)
      have HF := Lib.hid hf
      have HR := Lib.hid hr
      have HOF := Lib.hid hof
      have HS16 := Lib.hid hs16
      clear hf hr hof
      go_wp2_with (refine wpList_load_row rfl 32 (.tmp 4) rfl (bb + 1) rfl 32 (c32 (M.nums d.data.toList)) (0, 0) (.array 16 28) HF.out Tryd.underlying32 rfl (by rw [HS16.out]; exact size16) ?_)
      have HN := Lib.hid (Blk.setRow HR.out (c32 (M.nums d.data.toList)))
      refine bodyPost_ret (v := .agg (c32 (M.nums d.data.toList))) (results_cell_row (P := Tryd.prog) rfl _ _ w.heap.size 32 _ (0, 0) (.array 16 28) rfl HN.out Tryd.underlying32 rfl (by rw [HS16.out]; exact size16)) rfl ⟨rfl, ?_⟩
      exact below_setRow HOF.out (Nat.le_refl _) _
end Go.Proofs.YtgodccgbhpannaaDoor
