/- Merged of: RefBE. -/
import Derived.Test.YtabcobadglgfkaaGreatDoorMB3
import Derived.Deep.AppendLies
import Derived.Deep.CutBlock
import Derived.Deep.RegionHeld3
import Derived.Laws.OwnMore
/- The document's digest of bytes. -/
namespace Go.Proofs.YtabcobadglgfkaaGreatDoor
open Go.RowKit

/-- What the document's pressing does (proved in another text: press_any). -/
def PressSpec : Prop := ∀ (bh ch : Nat) (h : List Nat) (_ : h.length = 8) (_ : M.Small h) (s : ByteArray) (_ : s.size = 64) (n : Nat) (_ : n ≤ 1099511627776) (last : Bool) (w : World) (_ : Row w bh (l64 h) 3),
    Calls Tryz.prog 76 #[.slice (some ⟨bh, 0, none⟩) 8 ch, .string s, .int .i64 n, .bool last] w fun e w' =>
      e = .returned (.tuple #[]) ∧ Row w' bh (l64 (M.press h (M.nums s.data.toList) n last)) 3 ∧ Keep (· = bh) w w'
theorem byte_pad (d : List UInt8) (z i : Nat) : M.byte (d ++ List.replicate z 0) i = M.byte d i := by
  unfold M.byte
  rw [List.getD_eq_getElem?_getD, List.getD_eq_getElem?_getD]
  rcases Nat.lt_or_ge i d.length with h | h
  · rw [List.getElem?_append_left h]
  · rw [List.getElem?_append_right h, List.getElem?_eq_none h]
    rcases Nat.lt_or_ge (i - d.length) z with h2 | h2
    · rw [List.getElem?_replicate, if_pos h2]; rfl
    · rw [List.getElem?_replicate, if_neg (by omega)]
theorem nums_pad (d : List UInt8) (z : Nat) : M.nums (d ++ List.replicate z 0) = M.nums d := by
  unfold M.nums
  apply List.map_congr_left
  intro i _
  unfold M.numAt
  simp only [byte_pad]
theorem conv_zeros (w : World) (z : Nat) : (convert 55 9 (.slice (some ⟨w.heap.size, 0, none⟩) z z)).run Tryz.prog (w.alloc (.cells (madeCells #[.int .u8 0] z) 5)) = .ok (.string ⟨⟨List.replicate z 0⟩⟩) (w.alloc (.cells (madeCells #[.int .u8 0] z) 5)) := by
  have hz : (List.replicate z (0 : UInt8)).length = z := List.length_replicate
  have := run_convert_bytes_back (P := Tryz.prog) (w.alloc (.cells (madeCells #[.int .u8 0] z) 5)) 55 9 5 ⟨w.heap.size, 0, none⟩ z (List.replicate z 0) Tryz.underlying55 Tryz.underlying5 Tryz.underlying9 (by
    intro j hj
    rw [hz] at hj
    have hb : Blk (w.alloc (.cells (madeCells #[.int .u8 0] z) 5)) w.heap.size (madeCells #[.int .u8 0] z) 5 := Blk.new w _ _
    rw [add_at, hb.cell j, ← Array.getElem?_toList, toList_madeCells_one]
    simp [hj])
  rw [hz] at this
  exact this
theorem ex_mid (d : ByteArray) (m k : Nat) (_ : m + k ≤ d.size) : (d.extract m (m + k)).data.toList = (d.data.toList.drop m).take k := by
  simp [List.extract_eq_take_drop]

set_option maxHeartbeats 8000000 in
set_option maxRecDepth 100000 in
theorem rsum_any (press_any : PressSpec) (d0 : ByteArray) (hd : d0.size ≤ 549755813888) (w : World) :
    Calls Tryz.prog 37 #[.string d0] w fun e w' => e = .returned (.string ⟨⟨M.sum d0.data.toList⟩⟩) ∧ Old w w' := by
  obtain ⟨i0, hi, hz0, hz1, hz2⟩ := info_parts infoByte
  have GC := Lib.hid (constants_any w)
  have x0 : bits .xor .i64 1779033703 16842784 = ((M.gt M.iv 0 ^^^ 16842784 : Nat) : Int) := by decide +kernel
  go_enter Tryz.func37, Tryz.ntmps37
  go_wp2_with ((with_reducible refine GC.out.mono ?_); rintro e wc ⟨rfl, hrc, hoc, hsc⟩; have c0 : wc.cell? ⟨w.heap.size, 0, none⟩ = some (.int .i64 1779033703) := hrc.cellN 0 rfl; have f0 := hrc.free 0)
  have hst : Row (wc.setCell ⟨w.heap.size, 0, none⟩ (.int .i64 ((M.gt M.iv 0 ^^^ 16842784 : Nat) : Int))) w.heap.size (l64 M.h0) 3 := hrc.l64_set (by decide) _
  have hos : Old w (wc.setCell ⟨w.heap.size, 0, none⟩ (.int .i64 ((M.gt M.iv 0 ^^^ 16842784 : Nat) : Int))) := Below.setCell hoc (Nat.le_refl _) _
  have HST := Lib.hid hst
  have HOS := Lib.hid hos
  clear hst hos hrc hoc hsc c0 f0 x0 GC
  go_loopw [4] (fun n wr => ∃ (m : Nat) (h : List Nat), n = .int .i64 m ∧ m ≤ d0.size ∧ h.length = 8 ∧ M.Small h ∧ M.sumFrom ((d0.data.toList.drop m).length + 1) h m (d0.data.toList.drop m) = M.sumFrom (d0.data.toList.length + 1) M.h0 0 d0.data.toList ∧ Row wr w.heap.size (l64 h) 3 ∧ Old w wr) (fun n _ => d0.size - (intOf n).toNat)
  case atStart => exact ⟨0, M.h0, rfl, Nat.zero_le _, rfl, M.small_h0, by simp, HST.out, HOS.out⟩
  case round =>
    obtain ⟨m, h, rfl, hm, hl, hs, hsum, hb, ho⟩ := hrel
    have HL := Lib.hid hl
    have HS := Lib.hid hs
    have HSUM := Lib.hid hsum
    have HB := Lib.hid hb
    have HO := Lib.hid ho
    have hdl : d0.data.toList.length = d0.size := by simp
    have HDL := Lib.hid hdl
    have hwlt := hb.lt
    clear hl hs hsum hb ho hdl
    by_cases hbig : 64 < d0.size - m
    · have hmn : min (64 : Int) ((d0.size : Int) - (m : Int)) = 64 := by omega
      have hn0 : ¬ ((d0.size : Int) - (m : Int) < 64) := by omega
      have hne : ((m : Int) + 64 == (d0.size : Int)) = false := by rw [beq_eq_false_iff_ne]; omega
      have a0 : (0 : Int) ≤ (m : Int) := by omega
      have r0 : IntKind.i64.wrap ((d0.size : Int) - (m : Int)) = (d0.size : Int) - (m : Int) := by rw [IntWalk.i64_in _ (by omega)]
      have r1 : IntKind.i64.wrap ((m : Int) + 64) = (m : Int) + 64 := by rw [IntWalk.i64_in _ (by omega)]
      have a1 : (m : Int) ≤ (m : Int) + 64 := by omega
      have a2 : (m : Int) + 64 ≤ (d0.size : Int) := by omega
      have a3 : ((m : Int) + 64).toNat = m + 64 := by omega
      have hmk := run_make (P := Tryz.prog) wr.drew 55 5 i0 (.int .u8 0) Tryz.underlying55 hi hz0 .i64 .i64 (0 : Int) (0 : Int) (by omega) (Int.le_refl _) (by rw [hz2]; omega) (by omega)
      rw [hz1, Nat.mul_one, Int.toNat_zero] at hmk
      have hcv := conv_zeros wr.drew (0)
      obtain ⟨w1, e1w⟩ : ∃ w1, wr.drew.alloc (.cells (madeCells #[.int .u8 0] (0)) 5) = w1 := ⟨_, rfl⟩
      have o1 : Old wr w1 := by rw [← e1w]; exact Below.trans ((Below.refl _ wr).drew) (Old.alloc wr.drew _)
      have hmk2 : (Instr.makeSlice 55 (.int .i64 (0 : Int)) (.int .i64 (0 : Int))).run Tryz.prog wr.drew = .ok (.slice (some ⟨wr.heap.size, 0, none⟩) (0) (0)) w1 := by rw [← e1w]; exact hmk
      have hcv2 : (convert 55 9 (.slice (some ⟨wr.heap.size, 0, none⟩) (0) (0))).run Tryz.prog w1 = .ok (.string ⟨⟨List.replicate (0) 0⟩⟩) w1 := by rw [← e1w]; exact hcv
      clear hmk hcv e1w
      have hmin : ¬ (9223372036854775807 < min (m + 64) d0.size - m) := by omega
      go_upto_region 5 with (fail)
      refine wp_region_any (by kernel_rfl) ?_
      change wpAny _ _ _ _ _ _ _ (World.drew _)
      refine wpAny_take (i := 0) (v := ?_) rfl (by kernel_rfl) (by kernel_rfl) (by kernel_rfl) (fun _ _ _ h => h) (Or.inl ⟨by rfl, ?_⟩) ?_
      rotate_left
      · intro w'; go_simp; try with_reducible rfl
      refine wpAny_take (i := 1) (v := ?_) rfl (by kernel_rfl) (by kernel_rfl) (by kernel_rfl) (fun _ _ _ h => h) (Or.inl ⟨by rfl, ?_⟩) ?_
      rotate_left
      · intro w'; go_simp; try with_reducible rfl
      refine wpAny_take (i := 2) (v := ?_) rfl (by kernel_rfl) (by kernel_rfl) (by kernel_rfl) (fun _ _ _ h => h) (Or.inl ⟨by rfl, ?_⟩) ?_
      rotate_left
      · intro w'; go_simp; try with_reducible rfl
      refine wpAny_take (i := 3) (v := ?_) rfl (by kernel_rfl) (by kernel_rfl) (by kernel_rfl) (fun _ _ _ h => h) (Or.inl ⟨by rfl, ?_⟩) ?_
      rotate_left
      · intro w'; go_simp; try with_reducible rfl
      refine wpAny_take (i := 4) (v := ?_) rfl (by kernel_rfl) (by kernel_rfl) (by kernel_rfl) (fun _ _ _ h => h) (Or.inl ⟨by rfl, ?_⟩) ?_
      rotate_left
      · intro w'; go_simp; try with_reducible rfl
      refine wpAny_take (i := 5) (v := ?_) rfl (by kernel_rfl) (by kernel_rfl) (by kernel_rfl) (fun _ _ _ h => h) (Or.inl ⟨by rfl, ?_⟩) ?_
      rotate_left
      · intro w'; go_simp; try with_reducible rfl
      refine wpAny_take (i := 6) (v := ?_) rfl (by kernel_rfl) (by kernel_rfl) (by kernel_rfl) (fun _ _ _ h => h) (Or.inl ⟨by rfl, ?_⟩) ?_
      rotate_left
      · intro w'; go_simp; try with_reducible rfl
      refine wpAny_take (i := 7) (v := ?_) rfl (by kernel_rfl) (by kernel_rfl) (by kernel_rfl) (fun _ _ _ h => h) (Or.inl ⟨by rfl, ?_⟩) ?_
      rotate_left
      · intro w'; go_simp; try with_reducible rfl
      refine wpAny_ready (rs := [8]) (by kernel_rfl) (by simp) ?_
      refine AllReady.cons rfl (fun K hK => ?_) AllReady.nil
      go_simp
      refine hK _ _ ?_
      clear hK K
      refine wpAny_ready (rs := [9]) (by kernel_rfl) (by simp) ?_
      refine AllReady.cons rfl (fun K hK => ?_) AllReady.nil
      go_simp
      refine hK _ _ ?_
      clear hK K
      refine wpAny_take (i := 10) (v := ?_) rfl (by kernel_rfl) (by kernel_rfl) (by kernel_rfl) (fun _ _ _ h => h) (Or.inl ⟨by rfl, ?_⟩) ?_
      rotate_left
      · intro w'; go_simp; try with_reducible rfl
      refine wpAny_take (i := 11) (v := ?_) rfl (by kernel_rfl) (by kernel_rfl) (by kernel_rfl) (fun _ _ _ h => h) (Or.inl ⟨by rfl, ?_⟩) ?_
      rotate_left
      · intro w'; go_simp; try with_reducible rfl
      refine wpAny_done (by kernel_rfl) ?_ _
      go_upto_region 7 with (fail)
      obtain ⟨wa, ewa⟩ : ∃ wa, (wr.drew.alloc (.cells #[] 5)) = wa := ⟨_, rfl⟩
      have oa : Old wr wa := by rw [← ewa]; exact Below.trans ((Below.refl _ wr).drew) (Old.alloc wr.drew _)
      change Code.wp _ _ _ _ (wr.drew.alloc (.cells #[] 5))
      rw [ewa]
      clear ewa hmk2 hcv2 o1 hmin r0 r1 hn0
      have hsz : (d0.extract m (m + 64)).size = 64 := by rw [ByteArray.size_extract]; omega
      have gp := press_any w.heap.size 8 h HL.out HS.out (d0.extract m (m + 64)) hsz (m + 64) (by omega) false wa (HB.out.old oa)
      rw [show ((m + 64 : Nat) : Int) = (m : Int) + 64 from by omega, ex_mid d0 m 64 (by omega)] at gp
      have hsum := HSUM.out
      rw [sum_step h m (d0.data.toList.drop m) (by rw [List.length_drop, HDL.out]; omega), List.drop_drop] at hsum
      have HLX := Lib.hid (M.len_press h (M.nums ((d0.data.toList.drop m).take 64)) (m + 64) false)
      have HSX := Lib.hid (M.small_press HS.out (M.nums ((d0.data.toList.drop m).take 64)) (m + 64) false)
      generalize M.press h (M.nums ((d0.data.toList.drop m).take 64)) (m + 64) false = X at *
      have HSUM2 := Lib.hid hsum
      have GP := Lib.hid gp
      clear gp hsum
      go_wp2_with ((with_reducible refine GP.out.mono ?_); rintro e wb ⟨rfl, hrb, kb⟩)
      have HRB := Lib.hid hrb
      have HOB := Lib.hid (Below.trans (Old.trans HO.out oa) (kb.below (Old.trans HO.out oa).size (fun q hq => by omega)))
      clear hrb kb
      go_roundw
      case rel => exact ⟨m + 64, X, by go_num, by omega, HLX.out, HSX.out, HSUM2.out, HRB.out, HOB.out⟩
      case measure => simp [intOf]; omega
    · obtain ⟨K, hK⟩ : ∃ K, d0.size = m + K := ⟨d0.size - m, by omega⟩
      have e0 : (d0.size : Int) - (m : Int) = (K : Int) := by omega
      have hK64 : K ≤ 64 := by omega
      have e1 : (m : Int) + (K : Int) = (d0.size : Int) := by omega
      have hmn : min (64 : Int) (K : Int) = (K : Int) := by omega
      have hif : (if (K : Int) < 64 then (K : Int) else 64) = (K : Int) := by split <;> omega
      have a0 : (0 : Int) ≤ (m : Int) := by omega
      have r0 : IntKind.i64.wrap ((d0.size : Int) - (m : Int)) = (K : Int) := by rw [IntWalk.i64_in _ (by omega)]; omega
      have r1 : IntKind.i64.wrap ((m : Int) + (K : Int)) = (d0.size : Int) := by rw [IntWalk.i64_in _ (by omega)]; omega
      have a1 : (m : Int) ≤ (d0.size : Int) := by omega
      have a3 : ((d0.size : Int)).toNat = d0.size := by omega
      have r2 : IntKind.i64.wrap (64 - (K : Int)) = ((64 - K : Nat) : Int) := by rw [IntWalk.i64_in _ (by omega)]; omega
      have hmk := run_make (P := Tryz.prog) wr.drew 55 5 i0 (.int .u8 0) Tryz.underlying55 hi hz0 .i64 .i64 ((64 - K : Nat) : Int) ((64 - K : Nat) : Int) (by omega) (Int.le_refl _) (by rw [hz2]; omega) (by omega)
      rw [hz1, Nat.mul_one, Int.toNat_natCast] at hmk
      have hcv := conv_zeros wr.drew (64 - K)
      obtain ⟨w1, e1w⟩ : ∃ w1, wr.drew.alloc (.cells (madeCells #[.int .u8 0] (64 - K)) 5) = w1 := ⟨_, rfl⟩
      have o1 : Old wr w1 := by rw [← e1w]; exact Below.trans ((Below.refl _ wr).drew) (Old.alloc wr.drew _)
      have hmk2 : (Instr.makeSlice 55 (.int .i64 ((64 - K : Nat) : Int)) (.int .i64 ((64 - K : Nat) : Int))).run Tryz.prog wr.drew = .ok (.slice (some ⟨wr.heap.size, 0, none⟩) (64 - K) (64 - K)) w1 := by rw [← e1w]; exact hmk
      have hcv2 : (convert 55 9 (.slice (some ⟨wr.heap.size, 0, none⟩) (64 - K) (64 - K))).run Tryz.prog w1 = .ok (.string ⟨⟨List.replicate (64 - K) 0⟩⟩) w1 := by rw [← e1w]; exact hcv
      clear hmk hcv e1w
      have hmin : ¬ (9223372036854775807 < d0.size - m + (64 - K)) := by omega
      have r3 : IntKind.i64.wrap (d0.size : Int) = (d0.size : Int) := IntWalk.i64_in _ (by omega)
      have a4 : (0 : Int) ≤ (d0.size : Int) := by omega
      have HK := Lib.hid hK
      clear hK
      go_upto_region 5 with (fail)
      refine wp_region_any (by kernel_rfl) ?_
      change wpAny _ _ _ _ _ _ _ (World.drew _)
      refine wpAny_take (i := 0) (v := ?_) rfl (by kernel_rfl) (by kernel_rfl) (by kernel_rfl) (fun _ _ _ h => h) (Or.inl ⟨by rfl, ?_⟩) ?_
      rotate_left
      · intro w'; go_simp; try with_reducible rfl
      refine wpAny_take (i := 1) (v := ?_) rfl (by kernel_rfl) (by kernel_rfl) (by kernel_rfl) (fun _ _ _ h => h) (Or.inl ⟨by rfl, ?_⟩) ?_
      rotate_left
      · intro w'; go_simp; try with_reducible rfl
      refine wpAny_take (i := 2) (v := ?_) rfl (by kernel_rfl) (by kernel_rfl) (by kernel_rfl) (fun _ _ _ h => h) (Or.inl ⟨by rfl, ?_⟩) ?_
      rotate_left
      · intro w'; go_simp; try with_reducible rfl
      refine wpAny_take (i := 3) (v := ?_) rfl (by kernel_rfl) (by kernel_rfl) (by kernel_rfl) (fun _ _ _ h => h) (Or.inl ⟨by rfl, ?_⟩) ?_
      rotate_left
      · intro w'; go_simp; try with_reducible rfl
      refine wpAny_take (i := 4) (v := ?_) rfl (by kernel_rfl) (by kernel_rfl) (by kernel_rfl) (fun _ _ _ h => h) (Or.inl ⟨by rfl, ?_⟩) ?_
      rotate_left
      · intro w'; go_simp; try with_reducible rfl
      refine wpAny_take (i := 5) (v := ?_) rfl (by kernel_rfl) (by kernel_rfl) (by kernel_rfl) (fun _ _ _ h => h) (Or.inl ⟨by rfl, ?_⟩) ?_
      rotate_left
      · intro w'; go_simp; try with_reducible rfl
      refine wpAny_take (i := 6) (v := ?_) rfl (by kernel_rfl) (by kernel_rfl) (by kernel_rfl) (fun _ _ _ h => h) (Or.inl ⟨by rfl, ?_⟩) ?_
      rotate_left
      · intro w'; go_simp; try with_reducible rfl
      refine wpAny_take (i := 7) (v := ?_) rfl (by kernel_rfl) (by kernel_rfl) (by kernel_rfl) (fun _ _ _ h => h) (Or.inl ⟨by rfl, ?_⟩) ?_
      rotate_left
      · intro w'; go_simp; try with_reducible rfl
      refine wpAny_ready (rs := [8]) (by kernel_rfl) (by simp) ?_
      refine AllReady.cons rfl (fun K hK => ?_) AllReady.nil
      go_simp
      refine hK _ _ ?_
      clear hK K
      refine wpAny_ready (rs := [9]) (by kernel_rfl) (by simp) ?_
      refine AllReady.cons rfl (fun K hK => ?_) AllReady.nil
      go_simp
      refine hK _ _ ?_
      clear hK K
      refine wpAny_take (i := 10) (v := ?_) rfl (by kernel_rfl) (by kernel_rfl) (by kernel_rfl) (fun _ _ _ h => h) (Or.inl ⟨by rfl, ?_⟩) ?_
      rotate_left
      · intro w'; go_simp; try with_reducible rfl
      refine wpAny_take (i := 11) (v := ?_) rfl (by kernel_rfl) (by kernel_rfl) (by kernel_rfl) (fun _ _ _ h => h) (Or.inl ⟨by rfl, ?_⟩) ?_
      rotate_left
      · intro w'; go_simp; try with_reducible rfl
      refine wpAny_done (by kernel_rfl) ?_ _
      go_upto_region 7 with (fail)
      clear hmk2 hcv2 hmin r0 r1 r2 r3 hif e0 e1 a1 a3
      have hK := HK.out
      have hsz : (d0.extract m d0.size ++ ⟨Array.replicate (64 - K) 0⟩).size = 64 := by
        rw [ByteArray.size_append, ByteArray.size_extract, show (ByteArray.mk (Array.replicate (64 - K) 0)).size = 64 - K from by show (Array.replicate (64 - K) (0 : UInt8)).size = _; simp]
        omega
      have hnm : M.nums (d0.extract m d0.size ++ ⟨Array.replicate (64 - K) 0⟩).data.toList = M.nums (d0.data.toList.drop m) := by
        rw [show (d0.extract m d0.size ++ ⟨Array.replicate (64 - K) 0⟩).data.toList = (d0.extract m d0.size).data.toList ++ List.replicate (64 - K) 0 from by simp, ex_drop, nums_pad]
      have gp := press_any w.heap.size 8 h HL.out HS.out (d0.extract m d0.size ++ ⟨Array.replicate (64 - K) 0⟩) hsz d0.size (by omega) true w1 (HB.out.old o1)
      rw [hnm] at gp
      have hsum := HSUM.out
      rw [sum_last h m (d0.data.toList.drop m) (by rw [List.length_drop, HDL.out]; omega), List.length_drop, HDL.out, show m + (d0.size - m) = d0.size from by omega] at hsum
      have hlx := M.len_press h (M.nums (d0.data.toList.drop m)) d0.size true
      have hsx := M.small_press HS.out (M.nums (d0.data.toList.drop m)) d0.size true
      generalize M.press h (M.nums (d0.data.toList.drop m)) d0.size true = X at *
      have HFIN := Lib.hid (show M.digest X = M.sum d0.data.toList from by rw [M.sum, HDL.out, ← hsum])
      have HLX := Lib.hid hlx
      have HSX := Lib.hid hsx
      have GP := Lib.hid gp
      clear gp hsum hnm hsz hlx hsx hK
      go_wp2_with ((with_reducible refine GP.out.mono ?_); rintro e wb ⟨rfl, hrb, kb⟩)
      have HRB := Lib.hid hrb
      have HOB := Lib.hid (Below.trans (Old.trans HO.out o1) (kb.below (Old.trans HO.out o1).size (fun q hq => by omega)))
      have hblt := hrb.lt
      have hbsz := HOB.out.size
      clear hrb kb
      go_loopw [7, 8] (fun o i wx => ∃ k : Nat, k ≤ 8 ∧ i = .int .i64 k ∧ wx.ownsRow wb.heap.size 5 1 o (M.digest (X.take k)).length (Lib.byteCells (M.digest (X.take k))) ∧ Old wb wx) (fun _ i _ => 8 - (intOf i).toNat)
      case atStart => exact ⟨0, Nat.zero_le _, rfl, World.ownsRow_nil _ _ _ _, Below.refl _ _⟩
      case round =>
        obtain ⟨k, hk, rfl, hown, hox⟩ := hrel
        by_cases hlt : k < 8
        · have hp1 := digest_take X k (by rw [HLX.out]; exact hlt)
          have hld := M.len_digest (X.take k)
          rw [List.length_take, HLX.out, Nat.min_eq_left (by omega)] at hld
          have hx : M.gt X k < 4294967296 := M.gt_lt HSX.out k
          have hcx := (HRB.out.old hox).cellN k (l64_at (by rw [HLX.out]; exact hlt))
          generalize M.digest (X.take k) = pk at *
          generalize M.gt X k = x at *
          have HF := Lib.hid (four_cells x)
          have HLF := Lib.hid (show (M.four x).length = 4 from rfl)
          have HPP := Lib.hid hp1
          have HC3 := Lib.hid (show pk.length + 4 ≤ maxLen by unfold maxLen; omega)
          have HC4 := Lib.hid (show (pk.length + 4) * 1 ≤ 140737488355328 by omega)
          have hszx := hox.size
          have HC2 := Lib.hid (show ∀ u ∈ ([.int .u8 ((x : Int) % 256), .int .u8 ((x : Int) / 256 % 256), .int .u8 ((x : Int) / 65536 % 256), .int .u8 ((x : Int) / 16777216 % 256)] : List Value), u.oneCell' = true from by
            intro u hu
            simp only [List.mem_cons, List.not_mem_nil, or_false] at hu
            rcases hu with rfl | rfl | rfl | rfl <;> rfl)
          have i1 : (k : Int) < 8 := by omega
          have i2 : (0 : Int) ≤ (k : Int) := by omega
          have q1 : (x : Int).tdiv 256 = (x : Int) / 256 := Int.tdiv_eq_ediv_of_nonneg (by omega)
          have q2 : (x : Int).tdiv 65536 = (x : Int) / 65536 := Int.tdiv_eq_ediv_of_nonneg (by omega)
          have q3 : (x : Int).tdiv 16777216 = (x : Int) / 16777216 := Int.tdiv_eq_ediv_of_nonneg (by omega)
          have s0 : IntKind.i64.wrap ((x : Int) / 256) = (x : Int) / 256 := IntWalk.i64_in _ (by omega)
          have s1' : IntKind.i64.wrap ((x : Int) / 65536) = (x : Int) / 65536 := IntWalk.i64_in _ (by omega)
          have s2' : IntKind.i64.wrap ((x : Int) / 16777216) = (x : Int) / 16777216 := IntWalk.i64_in _ (by omega)
          have v0' : IntKind.u8.wrap (x : Int) = (x : Int) % 256 := IntKind.wrap_u8' _
          have v1' : IntKind.u8.wrap ((x : Int) / 256) = (x : Int) / 256 % 256 := IntKind.wrap_u8' _
          have v2' : IntKind.u8.wrap ((x : Int) / 65536) = (x : Int) / 65536 % 256 := IntKind.wrap_u8' _
          have v3' : IntKind.u8.wrap ((x : Int) / 16777216) = (x : Int) / 16777216 % 256 := IntKind.wrap_u8' _
          clear hld hp1
          go_upto_region 13 with (fail)
          apply cut_here
          · intro key
            go_region_held3 (fun w' => w'.cell? ⟨w.heap.size, k, none⟩ = some (.int .i64 (x : Int))) (first | go_keep | (rw [hgrow.cell_far _ (by simp; omega) (by intro hh; exact absurd (row_from hown _ hh.symm) (by show ¬ wb.heap.size ≤ w.heap.size; omega))]; simp; assumption)) (first | (refine step_append_lies _ (by rfl) _ _ _ (by rfl) wb.heap.size 5 i0 (.int .u8 0) 1 1 Tryz.underlying55 hi hz0 hz1 hz2 (by rfl) (by decide) u7 pk.length (Lib.byteCells pk) (by rfl) (hown.alloc _).drew ⟨wr.heap.size, 0, none⟩ 4 4 [.int .u8 ((x : Int) % 256), .int .u8 ((x : Int) / 256 % 256), .int .u8 ((x : Int) / 65536 % 256), .int .u8 ((x : Int) / 16777216 % 256)] (by rfl) (by rfl) (World.news_of_block (fr := (0, 0)) (t := 5) (cs := #[.int .u8 ((x : Int) % 256), .int .u8 ((x : Int) / 256 % 256), .int .u8 ((x : Int) / 65536 % 256), .int .u8 ((x : Int) / 16777216 % 256)]) (heap_alloc_last wr _)) HC2.out (by decide) HC3.out HC4.out (by simp; omega) _ rfl ?_); intro g cap w2 hown2 hgrow hat hlt2)
            all_goals (revert g cap w2 hown2 hgrow hat hlt2; exact key.out)
          intro g cap w2 hown2 hgrow _ _ _
          have ho2 : Old wb w2 := Keep.old ((Keep.of_old (S := fun _ => False) (Below.drew (Below.alloc hox hszx _))).grown hgrow (fun g hg => Or.inl (row_from hown g hg))) (fun _ _ h => h)
          have hown3 : w2.ownsRow wb.heap.size 5 1 (.slice (some ⟨g, 0, none⟩) (pk.length + 4) cap) (M.digest (X.take (k + 1))).length (Lib.byteCells (M.digest (X.take (k + 1)))) := by
            rw [HPP.out, List.length_append, HLF.out]
            have e : Lib.byteCells (pk ++ M.four x) = Lib.byteCells pk ++ [.int .u8 ((x : Int) % 256), .int .u8 ((x : Int) / 256 % 256), .int .u8 ((x : Int) / 65536 % 256), .int .u8 ((x : Int) / 16777216 % 256)] := by rw [← HF.out]; simp [Lib.byteCells]
            rw [e]
            exact hown2
          have HOWN3 := Lib.hid hown3
          clear hown3 hown2
          go_wp2
          go_roundw
          case rel => exact ⟨k + 1, by omega, by go_num, HOWN3.out, ho2⟩
          case measure => simp [intOf]; omega
        · obtain rfl : k = 8 := by omega
          rw [List.take_of_length_le (by rw [HLX.out]; exact Nat.le_refl _), HFIN.out] at hown
          have hconv := conv_row wr _ _ _ hown
          go_wp2
          go_ret
          exact ⟨rfl, Below.trans HOB.out (hox.mono hbsz)⟩
end Go.Proofs.YtabcobadglgfkaaGreatDoor
