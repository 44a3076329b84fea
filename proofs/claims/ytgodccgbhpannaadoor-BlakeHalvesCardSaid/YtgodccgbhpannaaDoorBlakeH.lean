/- The program's digest of bytes. -/
import Derived.Test.YtgodccgbhpannaaDoorBlakeE
import Derived.Test.YtgodccgbhpannaaDoorBlakeG
namespace Go.Proofs.YtgodccgbhpannaaDoor
open Go.RowKit

theorem c32_lit {h : List Nat} (hl : h.length = 8) : c32 h = #[.int .u32 ((M.gt h 0 : Nat) : Int), .int .u32 ((M.gt h 1 : Nat) : Int), .int .u32 ((M.gt h 2 : Nat) : Int), .int .u32 ((M.gt h 3 : Nat) : Int), .int .u32 ((M.gt h 4 : Nat) : Int), .int .u32 ((M.gt h 5 : Nat) : Int), .int .u32 ((M.gt h 6 : Nat) : Int), .int .u32 ((M.gt h 7 : Nat) : Int)] := by
  match h, hl with
  | [a0, a1, a2, a3, a4, a5, a6, a7], _ => rfl
def strLen : Value → Nat
  | .string d => d.size
  | _ => 0
theorem sum_step (h : List Nat) (m : Nat) (d : List UInt8) (hd : 64 < d.length) : M.sumFrom (d.length + 1) h m d = M.sumFrom ((d.drop 64).length + 1) (M.press h (M.nums (d.take 64)) (m + 64) false) (m + 64) (d.drop 64) := by
  rw [M.sumFrom, if_neg (by omega)]
  exact M.sumFrom_more _ _ _ _ _ (by simp; omega) (by omega)
theorem sum_last (h : List Nat) (m : Nat) (d : List UInt8) (hd : d.length ≤ 64) : M.sumFrom (d.length + 1) h m d = M.press h (M.nums d) (m + d.length) true := by
  rw [M.sumFrom, if_pos hd]
theorem ex_take (d : ByteArray) (k : Nat) : (d.extract 0 k).data.toList = d.data.toList.take k := by simp [List.extract_eq_take_drop]
theorem ex_drop (d : ByteArray) (k : Nat) : (d.extract k d.size).data.toList = d.data.toList.drop k := by
  simp [List.extract_eq_take_drop]
  rw [List.take_of_length_le]
  simp

set_option maxHeartbeats 4000000 in
set_option maxRecDepth 100000 in
theorem sum_any (d0 : ByteArray) (hd : d0.size ≤ 1099511627776) (w : World) (ht : Tabs w) :
    Calls Tryd.prog 7 #[.string d0] w fun e w' => e = .returned (.string ⟨⟨M.sum d0.data.toList⟩⟩) ∧ Old w w' := by
  obtain ⟨tI, fI, hbI⟩ := var_block num_initial ht.1
  have HBI := Lib.hid hbI
  have HT := Lib.hid ht
  have hlt := ht.lt
  clear hbI ht
  have hs8 : (c32 M.iv).size = 8 := rfl
  have hsc := run_storeCells_new (P := Tryd.prog) w 29 #[.int .u32 0, .int .u32 0, .int .u32 0, .int .u32 0, .int .u32 0, .int .u32 0, .int .u32 0, .int .u32 0] (c32 M.iv) (by rw [hs8]; exact size8) rfl (one32a _)
  have hb1 : Blk (w.alloc (.cells (c32 M.iv) 29)) w.heap.size (c32 M.iv) 29 := Blk.new w _ _
  have c0 : (w.alloc (.cells (c32 M.iv) 29)).cell? ⟨w.heap.size, 0, none⟩ = some (.int .u32 1779033703) := hb1.cellN 0 (c32_at (v := M.iv) (by decide))
  have f0 := hb1.free 0
  have x0 : bits .xor .u32 1779033703 16842784 = ((M.gt M.iv 0 ^^^ 16842784 : Nat) : Int) := by decide +kernel
  have HB1 := Lib.hid hb1
  clear hb1
  go_enter Tryd.func7, Tryd.ntmps7
  go_wp2_with (refine wpList_load_row rfl 29 (.global 0) rfl 0 rfl tI (c32 M.iv) fI (.array 8 28) HBI.out Tryd.underlying29 rfl size8 ?_)
  have hst : Blk (w.alloc (.cells ((c32 M.iv).setIfInBounds 0 (.int .u32 ((M.gt M.iv 0 ^^^ 16842784 : Nat) : Int))) 29)) w.heap.size (c32 M.h0) 29 := by
    rw [Proofs.YtgodccgbhpannaaDoor.c32_set]
    exact Blk.new w _ _
  have HST := Lib.hid hst
  clear hst hsc hs8 c0 f0 x0 HB1 HBI
  go_loopw [0, 4] (fun s n wr => ∃ (d : ByteArray) (m : Nat) (h : List Nat), s = .string d ∧ n = .int .u64 m ∧ m + d.size = d0.size ∧ h.length = 8 ∧ M.Small h ∧ M.sumFrom (d.data.toList.length + 1) h m d.data.toList = M.sumFrom (d0.data.toList.length + 1) M.h0 0 d0.data.toList ∧ Blk wr w.heap.size (c32 h) 29 ∧ Old w wr) (fun s _ _ => strLen s)
  case atStart => exact ⟨d0, 0, M.h0, rfl, rfl, by omega, rfl, M.small_h0, rfl, HST.out, Old.alloc w _⟩
  case round =>
    obtain ⟨d, m, h, rfl, rfl, hmd, hl, hs, hsum, hb, ho⟩ := hrel
    have HS := Lib.hid hs
    have HSUM := Lib.hid hsum
    have HMD := Lib.hid hmd
    have hm : m ≤ 1099511627776 := by omega
    have hdl : d.data.toList.length = d.size := by simp
    have HDL := Lib.hid hdl
    clear hsum hs hdl
    have HL := Lib.hid hl
    clear hl
    have HBB := Lib.hid hb
    by_cases hbig : 64 < d.size
    · have hex : (d.extract 0 64).size ≤ 64 := by rw [ByteArray.size_extract]; omega
      have gn := fun w1 => numbers_any (d.extract 0 64) hex w1
      simp only [ex_take] at gn
      have GN := Lib.hid gn
      clear gn
      obtain ⟨X, hX⟩ : ∃ X, M.press h (M.nums (d.data.toList.take 64)) (m + 64) false = X := ⟨_, rfl⟩
      have GC := Lib.hid (fun w1 ht1 => (show Calls Tryd.prog 12 #[.agg #[.int .u32 ((M.gt h 0 : Nat) : Int), .int .u32 ((M.gt h 1 : Nat) : Int), .int .u32 ((M.gt h 2 : Nat) : Int), .int .u32 ((M.gt h 3 : Nat) : Int), .int .u32 ((M.gt h 4 : Nat) : Int), .int .u32 ((M.gt h 5 : Nat) : Int), .int .u32 ((M.gt h 6 : Nat) : Int), .int .u32 ((M.gt h 7 : Nat) : Int)], .agg (c32 (M.nums (d.data.toList.take 64))), .int .u64 ((m : Int) + 64), .bool false] w1 (fun e w' => e = .returned (.agg (c32 X)) ∧ Old w1 w') from by
        rw [← hX, ← c32_lit HL.out]
        exact compress_any h (M.nums (d.data.toList.take 64)) HL.out HS.out (M.len_nums _) (M.small_nums _) (m + 64) (by omega) false w1 ht1))
      have hlX : X.length = 8 := by rw [← hX, M.len_press]
      have HSX := Lib.hid (show M.Small X from by rw [← hX]; exact M.small_press HS.out _ _ _)
      have HLX := Lib.hid hlX
      have hsX : (c32 X).size = 8 := by rw [c32_size, hlX]
      have HX := Lib.hid hX
      have HTr := Lib.hid (HT.out.old ho)
      clear hX hlX
      go_upto_region 6 with (fail)
      have q0 := hb.cellN 0 (c32_at (by rw [HL.out]; decide))
      have q1 := hb.cellN 1 (c32_at (by rw [HL.out]; decide))
      have q2 := hb.cellN 2 (c32_at (by rw [HL.out]; decide))
      have q3 := hb.cellN 3 (c32_at (by rw [HL.out]; decide))
      have q4 := hb.cellN 4 (c32_at (by rw [HL.out]; decide))
      have q5 := hb.cellN 5 (c32_at (by rw [HL.out]; decide))
      have q6 := hb.cellN 6 (c32_at (by rw [HL.out]; decide))
      have q7 := hb.cellN 7 (c32_at (by rw [HL.out]; decide))

      apply cut_here
      · intro key
        go_region_with (first
          | ((with_reducible refine (GN.out _).mono ?_); rintro e w1 ⟨rfl, o1⟩; have o1' : Old wr w1 := Below.trans ((Below.refl _ wr).drew) o1; have hb1 := HBB.out.old o1'; have q0 := hb1.cellN 0 (c32_at (by rw [HL.out]; decide)); have q1 := hb1.cellN 1 (c32_at (by rw [HL.out]; decide)); have q2 := hb1.cellN 2 (c32_at (by rw [HL.out]; decide)); have q3 := hb1.cellN 3 (c32_at (by rw [HL.out]; decide)); have q4 := hb1.cellN 4 (c32_at (by rw [HL.out]; decide)); have q5 := hb1.cellN 5 (c32_at (by rw [HL.out]; decide)); have q6 := hb1.cellN 6 (c32_at (by rw [HL.out]; decide)); have q7 := hb1.cellN 7 (c32_at (by rw [HL.out]; decide)))
          | ((with_reducible refine (GC.out _ (HTr.out.old o1')).mono ?_); rintro e w2 ⟨rfl, o2⟩; have hb2 := hb1.old o2; have hsc := storeCells_blk w2 w.heap.size (c32 h) (c32 X) 29 hb2 (by rw [hsX]; exact size8) (by rw [hsX, c32_size, HL.out]) (one32a _)))
        all_goals (have o12 : Old wr w2 := o1'.trans o2; clear hsc o2; revert w2; exact key.out)
      intro w2 hb2 o12
      have hb3 : Blk (w2.setRow w.heap.size (c32 X)) w.heap.size (c32 X) 29 := hb2.setRow _
      have ho3 : Old w (w2.setRow w.heap.size (c32 X)) := below_setRow (Below.trans ho (o12.mono ho.size)) (Nat.le_refl _) _
      generalize w2.setRow w.heap.size (c32 X) = w3 at *
      have hds : 64 < d.data.toList.length := by rw [HDL.out]; exact hbig
      have hsum2 := HSUM.out
      rw [sum_step h m _ hds, HX.out, ← ex_drop] at hsum2
      have HSUM2 := Lib.hid hsum2
      have HSZ := Lib.hid (show m + 64 + (d.extract 64 d.size).size = d0.size by rw [ByteArray.size_extract]; omega)
      have HME := Lib.hid (show (d.extract 64 d.size).size < d.size by rw [ByteArray.size_extract]; omega)
      clear hsum2 q0 q1 q2 q3 q4 q5 q6 q7 GN GC hb2
      go_wp2
      go_roundw
      case rel => exact ⟨d.extract 64 d.size, m + 64, X, rfl, by go_num, HSZ.out, HLX.out, HSX.out, HSUM2.out, hb3, ho3⟩
      case measure => exact HME.out
    · have gn := fun w1 => numbers_any d (by omega) w1
      have GN := Lib.hid gn
      clear gn
      obtain ⟨X, hX⟩ : ∃ X, M.press h (M.nums d.data.toList) (m + d.size) true = X := ⟨_, rfl⟩
      have GC := Lib.hid (fun w1 ht1 => (show Calls Tryd.prog 12 #[.agg #[.int .u32 ((M.gt h 0 : Nat) : Int), .int .u32 ((M.gt h 1 : Nat) : Int), .int .u32 ((M.gt h 2 : Nat) : Int), .int .u32 ((M.gt h 3 : Nat) : Int), .int .u32 ((M.gt h 4 : Nat) : Int), .int .u32 ((M.gt h 5 : Nat) : Int), .int .u32 ((M.gt h 6 : Nat) : Int), .int .u32 ((M.gt h 7 : Nat) : Int)], .agg (c32 (M.nums d.data.toList)), .int .u64 ((m : Int) + (d.size : Int)), .bool true] w1 (fun e w' => e = .returned (.agg (c32 X)) ∧ Old w1 w') from by
        rw [← hX, ← c32_lit HL.out]
        exact compress_any h (M.nums d.data.toList) HL.out HS.out (M.len_nums _) (M.small_nums _) (m + d.size) (by omega) true w1 ht1))
      have hlX : X.length = 8 := by rw [← hX, M.len_press]
      have HSX := Lib.hid (show M.Small X from by rw [← hX]; exact M.small_press HS.out _ _ _)
      have HLX := Lib.hid hlX
      have hsX : (c32 X).size = 8 := by rw [c32_size, hlX]
      have HSX8 := Lib.hid hsX
      have hfin : M.sumFrom (d0.data.toList.length + 1) M.h0 0 d0.data.toList = X := by
        rw [← HSUM.out, sum_last h m _ (by rw [HDL.out]; omega), HDL.out, hX]
      have HFIN := Lib.hid (show M.sum d0.data.toList = M.digest X from by rw [M.sum, hfin])
      have HTr := Lib.hid (HT.out.old ho)
      clear hX hlX hfin
      have hw1 : IntKind.u64.wrap (d.size : Int) = (d.size : Int) := by rw [IntKind.wrap_u64]; omega
      have hw2 : IntKind.u64.wrap ((m : Int) + (d.size : Int)) = (m : Int) + (d.size : Int) := by rw [IntKind.wrap_u64]; omega
      go_upto_region 8 with (fail)
      have q0 := hb.cellN 0 (c32_at (by rw [HL.out]; decide))
      have q1 := hb.cellN 1 (c32_at (by rw [HL.out]; decide))
      have q2 := hb.cellN 2 (c32_at (by rw [HL.out]; decide))
      have q3 := hb.cellN 3 (c32_at (by rw [HL.out]; decide))
      have q4 := hb.cellN 4 (c32_at (by rw [HL.out]; decide))
      have q5 := hb.cellN 5 (c32_at (by rw [HL.out]; decide))
      have q6 := hb.cellN 6 (c32_at (by rw [HL.out]; decide))
      have q7 := hb.cellN 7 (c32_at (by rw [HL.out]; decide))

      apply cut_here
      · intro key
        go_region_with (first
          | ((with_reducible refine (GN.out _).mono ?_); rintro e w1 ⟨rfl, o1⟩; have o1' : Old wr w1 := Below.trans ((Below.refl _ wr).drew) o1; have hb1 := HBB.out.old o1'; have q0 := hb1.cellN 0 (c32_at (by rw [HL.out]; decide)); have q1 := hb1.cellN 1 (c32_at (by rw [HL.out]; decide)); have q2 := hb1.cellN 2 (c32_at (by rw [HL.out]; decide)); have q3 := hb1.cellN 3 (c32_at (by rw [HL.out]; decide)); have q4 := hb1.cellN 4 (c32_at (by rw [HL.out]; decide)); have q5 := hb1.cellN 5 (c32_at (by rw [HL.out]; decide)); have q6 := hb1.cellN 6 (c32_at (by rw [HL.out]; decide)); have q7 := hb1.cellN 7 (c32_at (by rw [HL.out]; decide)))
          | ((with_reducible refine (GC.out _ (HTr.out.old o1')).mono ?_); rintro e w2 ⟨rfl, o2⟩; have hb2 := hb1.old o2; have hsc := storeCells_blk w2 w.heap.size (c32 h) (c32 X) 29 hb2 (by rw [hsX]; exact size8) (by rw [hsX, c32_size, HL.out]) (one32a _)))
        all_goals (have o12 : Old wr w2 := o1'.trans o2; clear hsc o2; revert w2; exact key.out)
      intro w2 hb2 o12
      have hb3 : Blk (w2.setRow w.heap.size (c32 X)) w.heap.size (c32 X) 29 := hb2.setRow _
      have ho3 : Old w (w2.setRow w.heap.size (c32 X)) := below_setRow (Below.trans ho (o12.mono ho.size)) (Nat.le_refl _) _
      generalize w2.setRow w.heap.size (c32 X) = w3 at *
      have HB3 := Lib.hid hb3
      have GD := Lib.hid (digest_any X HLX.out HSX.out w3)
      clear q0 q1 q2 q3 q4 q5 q6 q7 GN GC hb2 hb3 hb
      go_wp2_with (first
        | (refine wpList_load_row rfl 29 (.tmp 3) rfl w.heap.size rfl 29 (c32 X) (0, 0) (.array 8 28) HB3.out Tryd.underlying29 rfl (by rw [HSX8.out]; exact size8) ?_)
        | ((with_reducible refine GD.out.mono ?_); rintro e w4 ⟨rfl, o4⟩))
      go_ret
      exact ⟨by rw [HFIN.out]; rfl, Below.trans ho3 (o4.mono ho3.size)⟩
end Go.Proofs.YtgodccgbhpannaaDoor
