/- The program's round: eight mixings by the order s. -/
import Derived.Test.YtgodccgbhpannaaDoorBlakeB
namespace Go.Proofs.YtgodccgbhpannaaDoor
open Go.RowKit

theorem mix_at (bv : Nat) (v : List Nat) (hl : v.length = 16) (hs : M.Small v) (a b c d x y : Nat) (A B C D : Int) (h : A = (a : Int) ∧ B = (b : Int) ∧ C = (c : Int) ∧ D = (d : Int) ∧ a < 16 ∧ b < 16 ∧ c < 16 ∧ d < 16)
    (hx : x < 4294967296) (hy : y < 4294967296) (w : World) (hv : Blk w bv (c32 v) 32) :
    Calls Tryd.prog 20 #[.pointer (some ⟨bv, 0, none⟩), .int .i64 A, .int .i64 B, .int .i64 C, .int .i64 D, .int .u32 x, .int .u32 y] w fun e w' =>
      e = .returned (.tuple #[]) ∧ Blk w' bv (c32 (M.mix v a b c d x y)) 32 ∧ Keep (· = bv) w w' := by
  obtain ⟨rfl, rfl, rfl, rfl, h1, h2, h3, h4⟩ := h
  exact mix_any bv v hl hs a b c d x y h1 h2 h3 h4 hx hy w hv

def c8 (v : List Nat) : Array Value := (v.map fun (n : Nat) => Value.int .u8 (n : Int)).toArray
theorem c8_at {v : List Nat} {i : Nat} (h : i < v.length) : (c8 v)[i]? = some (.int .u8 (M.gt v i : Nat)) := ints_at .u8 h

set_option maxHeartbeats 4000000 in
set_option maxRecDepth 100000 in
theorem round_any (bv bm bs : Nat) (v m s : List Nat) (hl : v.length = 16) (hs : M.Small v) (hml : m.length = 16) (hms : M.Small m) (hsl : s.length = 16) (hss : ∀ i, M.gt s i < 16) (hvm : bm ≠ bv) (hvs : bs ≠ bv)
    (w : World) (h : Blk w bv (c32 v) 32) (hm : Blk w bm (c32 m) 32) (hs8 : Blk w bs (c8 s) 40) :
    Calls Tryd.prog 17 #[.pointer (some ⟨bv, 0, none⟩), .pointer (some ⟨bm, 0, none⟩), .pointer (some ⟨bs, 0, none⟩)] w fun e w' =>
      e = .returned (.tuple #[]) ∧ Blk w' bv (c32 (M.round v m s)) 32 ∧ Keep (· = bv) w w' := by
  have HL := Lib.hid hl
  have HS := Lib.hid hs
  have HML := Lib.hid hml
  have HMS := Lib.hid hms
  have HSL := Lib.hid hsl
  have HSS := Lib.hid hss
  have HV := Lib.hid h
  have HM := Lib.hid hm
  have HO := Lib.hid hs8
  have HVM := Lib.hid hvm
  have HVS := Lib.hid hvs
  have HK := Lib.hid (Keep.refl (· = bv) w)
  clear hl hs hml hms hsl hss h hm hs8 hvm hvs
  go_enter Tryd.func17, Tryd.ntmps17
  have c1 := HO.out.cellN 0 (c8_at (by rw [HSL.out]; decide))
  have c2 := HO.out.cellN 1 (c8_at (by rw [HSL.out]; decide))
  have l1 : ((M.gt s 0 : Nat) : Int) < 16 := by have := HSS.out 0; omega
  have l2 : ((M.gt s 1 : Nat) : Int) < 16 := by have := HSS.out 1; omega
  have p1 : (0 : Int) ≤ ((M.gt s 0 : Nat) : Int) := by omega
  have p2 : (0 : Int) ≤ ((M.gt s 1 : Nat) : Int) := by omega
  have c3 := HM.out.cellN (M.gt s 0) (c32_at (by rw [HML.out]; exact HSS.out _))
  have c4 := HM.out.cellN (M.gt s 1) (c32_at (by rw [HML.out]; exact HSS.out _))
  go_wp2
  go_still_tail 17, (by kernel_rfl)
  change wpList _ _ _ _ _ w.drew
  have G := Lib.hid (mix_at bv v HL.out HS.out 0 4 8 12 (M.gt m (M.gt s 0)) (M.gt m (M.gt s 1)) 0 4 8 12 (by decide) (M.gt_lt HMS.out _) (M.gt_lt HMS.out _) w.drew HV.out)
  go_wp2_with ((with_reducible refine G.out.mono ?_); rintro e w1 ⟨rfl, h1, k1⟩)
  have HS1 := Lib.hid (M.small_mix HS.out _ _ _ _ _ _ : M.Small (M.mix v 0 4 8 12 (M.gt m (M.gt s 0)) (M.gt m (M.gt s 1))))
  have HL1 := Lib.hid ((M.len_mix .. : (M.mix v 0 4 8 12 (M.gt m (M.gt s 0)) (M.gt m (M.gt s 1))).length = _).trans HL.out)
  have HV1 := Lib.hid h1
  have HM1 := Lib.hid ((show Blk w.drew bm (c32 m) _ from HM.out).keep k1 (show ¬ (fun k => k = bv) bm from HVM.out))
  have HO1 := Lib.hid ((show Blk w.drew bs (c8 s) _ from HO.out).keep k1 (show ¬ (fun k => k = bv) bs from HVS.out))
  have HK1 := Lib.hid ((HK.out.drew.trans k1 : Keep (· = bv) w w1))
  clear h1 k1 c1 c2 c3 c4 l1 l2 p1 p2 G HS HL HV HM HO HK
  have HS := HS1; have HL := HL1; have HV := HV1; have HM := HM1; have HO := HO1; have HK := HK1
  clear HS1 HL1 HV1 HM1 HO1 HK1
  obtain ⟨v1, he⟩ : ∃ z : List Nat, M.mix v 0 4 8 12 (M.gt m (M.gt s 0)) (M.gt m (M.gt s 1)) = z := ⟨_, rfl⟩
  rw [he] at HS HL HV
  have HE1 := Lib.hid he
  clear he
  have c1 := HO.out.cellN 2 (c8_at (by rw [HSL.out]; decide))
  have c2 := HO.out.cellN 3 (c8_at (by rw [HSL.out]; decide))
  have l1 : ((M.gt s 2 : Nat) : Int) < 16 := by have := HSS.out 2; omega
  have l2 : ((M.gt s 3 : Nat) : Int) < 16 := by have := HSS.out 3; omega
  have p1 : (0 : Int) ≤ ((M.gt s 2 : Nat) : Int) := by omega
  have p2 : (0 : Int) ≤ ((M.gt s 3 : Nat) : Int) := by omega
  have c3 := HM.out.cellN (M.gt s 2) (c32_at (by rw [HML.out]; exact HSS.out _))
  have c4 := HM.out.cellN (M.gt s 3) (c32_at (by rw [HML.out]; exact HSS.out _))
  go_wp2
  go_still_tail 17, (by kernel_rfl)
  change wpList _ _ _ _ _ w1.drew
  have G := Lib.hid (mix_at bv v1 HL.out HS.out 1 5 9 13 (M.gt m (M.gt s 2)) (M.gt m (M.gt s 3)) 1 5 9 13 (by decide) (M.gt_lt HMS.out _) (M.gt_lt HMS.out _) w1.drew HV.out)
  go_wp2_with ((with_reducible refine G.out.mono ?_); rintro e w2 ⟨rfl, h1, k1⟩)
  have HS1 := Lib.hid (M.small_mix HS.out _ _ _ _ _ _ : M.Small (M.mix v1 1 5 9 13 (M.gt m (M.gt s 2)) (M.gt m (M.gt s 3))))
  have HL1 := Lib.hid ((M.len_mix .. : (M.mix v1 1 5 9 13 (M.gt m (M.gt s 2)) (M.gt m (M.gt s 3))).length = _).trans HL.out)
  have HV1 := Lib.hid h1
  have HM1 := Lib.hid ((show Blk w1.drew bm (c32 m) _ from HM.out).keep k1 (show ¬ (fun k => k = bv) bm from HVM.out))
  have HO1 := Lib.hid ((show Blk w1.drew bs (c8 s) _ from HO.out).keep k1 (show ¬ (fun k => k = bv) bs from HVS.out))
  have HK1 := Lib.hid ((HK.out.drew.trans k1 : Keep (· = bv) w w2))
  clear h1 k1 c1 c2 c3 c4 l1 l2 p1 p2 G HS HL HV HM HO HK
  have HS := HS1; have HL := HL1; have HV := HV1; have HM := HM1; have HO := HO1; have HK := HK1
  clear HS1 HL1 HV1 HM1 HO1 HK1
  obtain ⟨v2, he⟩ : ∃ z : List Nat, M.mix v1 1 5 9 13 (M.gt m (M.gt s 2)) (M.gt m (M.gt s 3)) = z := ⟨_, rfl⟩
  rw [he] at HS HL HV
  have HE2 := Lib.hid he
  clear he
  have c1 := HO.out.cellN 4 (c8_at (by rw [HSL.out]; decide))
  have c2 := HO.out.cellN 5 (c8_at (by rw [HSL.out]; decide))
  have l1 : ((M.gt s 4 : Nat) : Int) < 16 := by have := HSS.out 4; omega
  have l2 : ((M.gt s 5 : Nat) : Int) < 16 := by have := HSS.out 5; omega
  have p1 : (0 : Int) ≤ ((M.gt s 4 : Nat) : Int) := by omega
  have p2 : (0 : Int) ≤ ((M.gt s 5 : Nat) : Int) := by omega
  have c3 := HM.out.cellN (M.gt s 4) (c32_at (by rw [HML.out]; exact HSS.out _))
  have c4 := HM.out.cellN (M.gt s 5) (c32_at (by rw [HML.out]; exact HSS.out _))
  go_wp2
  go_still_tail 17, (by kernel_rfl)
  change wpList _ _ _ _ _ w2.drew
  have G := Lib.hid (mix_at bv v2 HL.out HS.out 2 6 10 14 (M.gt m (M.gt s 4)) (M.gt m (M.gt s 5)) 2 6 10 14 (by decide) (M.gt_lt HMS.out _) (M.gt_lt HMS.out _) w2.drew HV.out)
  go_wp2_with ((with_reducible refine G.out.mono ?_); rintro e w3 ⟨rfl, h1, k1⟩)
  have HS1 := Lib.hid (M.small_mix HS.out _ _ _ _ _ _ : M.Small (M.mix v2 2 6 10 14 (M.gt m (M.gt s 4)) (M.gt m (M.gt s 5))))
  have HL1 := Lib.hid ((M.len_mix .. : (M.mix v2 2 6 10 14 (M.gt m (M.gt s 4)) (M.gt m (M.gt s 5))).length = _).trans HL.out)
  have HV1 := Lib.hid h1
  have HM1 := Lib.hid ((show Blk w2.drew bm (c32 m) _ from HM.out).keep k1 (show ¬ (fun k => k = bv) bm from HVM.out))
  have HO1 := Lib.hid ((show Blk w2.drew bs (c8 s) _ from HO.out).keep k1 (show ¬ (fun k => k = bv) bs from HVS.out))
  have HK1 := Lib.hid ((HK.out.drew.trans k1 : Keep (· = bv) w w3))
  clear h1 k1 c1 c2 c3 c4 l1 l2 p1 p2 G HS HL HV HM HO HK
  have HS := HS1; have HL := HL1; have HV := HV1; have HM := HM1; have HO := HO1; have HK := HK1
  clear HS1 HL1 HV1 HM1 HO1 HK1
  obtain ⟨v3, he⟩ : ∃ z : List Nat, M.mix v2 2 6 10 14 (M.gt m (M.gt s 4)) (M.gt m (M.gt s 5)) = z := ⟨_, rfl⟩
  rw [he] at HS HL HV
  have HE3 := Lib.hid he
  clear he
  have c1 := HO.out.cellN 6 (c8_at (by rw [HSL.out]; decide))
  have c2 := HO.out.cellN 7 (c8_at (by rw [HSL.out]; decide))
  have l1 : ((M.gt s 6 : Nat) : Int) < 16 := by have := HSS.out 6; omega
  have l2 : ((M.gt s 7 : Nat) : Int) < 16 := by have := HSS.out 7; omega
  have p1 : (0 : Int) ≤ ((M.gt s 6 : Nat) : Int) := by omega
  have p2 : (0 : Int) ≤ ((M.gt s 7 : Nat) : Int) := by omega
  have c3 := HM.out.cellN (M.gt s 6) (c32_at (by rw [HML.out]; exact HSS.out _))
  have c4 := HM.out.cellN (M.gt s 7) (c32_at (by rw [HML.out]; exact HSS.out _))
  go_wp2
  go_still_tail 17, (by kernel_rfl)
  change wpList _ _ _ _ _ w3.drew
  have G := Lib.hid (mix_at bv v3 HL.out HS.out 3 7 11 15 (M.gt m (M.gt s 6)) (M.gt m (M.gt s 7)) 3 7 11 15 (by decide) (M.gt_lt HMS.out _) (M.gt_lt HMS.out _) w3.drew HV.out)
  go_wp2_with ((with_reducible refine G.out.mono ?_); rintro e w4 ⟨rfl, h1, k1⟩)
  have HS1 := Lib.hid (M.small_mix HS.out _ _ _ _ _ _ : M.Small (M.mix v3 3 7 11 15 (M.gt m (M.gt s 6)) (M.gt m (M.gt s 7))))
  have HL1 := Lib.hid ((M.len_mix .. : (M.mix v3 3 7 11 15 (M.gt m (M.gt s 6)) (M.gt m (M.gt s 7))).length = _).trans HL.out)
  have HV1 := Lib.hid h1
  have HM1 := Lib.hid ((show Blk w3.drew bm (c32 m) _ from HM.out).keep k1 (show ¬ (fun k => k = bv) bm from HVM.out))
  have HO1 := Lib.hid ((show Blk w3.drew bs (c8 s) _ from HO.out).keep k1 (show ¬ (fun k => k = bv) bs from HVS.out))
  have HK1 := Lib.hid ((HK.out.drew.trans k1 : Keep (· = bv) w w4))
  clear h1 k1 c1 c2 c3 c4 l1 l2 p1 p2 G HS HL HV HM HO HK
  have HS := HS1; have HL := HL1; have HV := HV1; have HM := HM1; have HO := HO1; have HK := HK1
  clear HS1 HL1 HV1 HM1 HO1 HK1
  obtain ⟨v4, he⟩ : ∃ z : List Nat, M.mix v3 3 7 11 15 (M.gt m (M.gt s 6)) (M.gt m (M.gt s 7)) = z := ⟨_, rfl⟩
  rw [he] at HS HL HV
  have HE4 := Lib.hid he
  clear he
  have c1 := HO.out.cellN 8 (c8_at (by rw [HSL.out]; decide))
  have c2 := HO.out.cellN 9 (c8_at (by rw [HSL.out]; decide))
  have l1 : ((M.gt s 8 : Nat) : Int) < 16 := by have := HSS.out 8; omega
  have l2 : ((M.gt s 9 : Nat) : Int) < 16 := by have := HSS.out 9; omega
  have p1 : (0 : Int) ≤ ((M.gt s 8 : Nat) : Int) := by omega
  have p2 : (0 : Int) ≤ ((M.gt s 9 : Nat) : Int) := by omega
  have c3 := HM.out.cellN (M.gt s 8) (c32_at (by rw [HML.out]; exact HSS.out _))
  have c4 := HM.out.cellN (M.gt s 9) (c32_at (by rw [HML.out]; exact HSS.out _))
  go_wp2
  go_still_tail 17, (by kernel_rfl)
  change wpList _ _ _ _ _ w4.drew
  have G := Lib.hid (mix_at bv v4 HL.out HS.out 0 5 10 15 (M.gt m (M.gt s 8)) (M.gt m (M.gt s 9)) 0 5 10 15 (by decide) (M.gt_lt HMS.out _) (M.gt_lt HMS.out _) w4.drew HV.out)
  go_wp2_with ((with_reducible refine G.out.mono ?_); rintro e w5 ⟨rfl, h1, k1⟩)
  have HS1 := Lib.hid (M.small_mix HS.out _ _ _ _ _ _ : M.Small (M.mix v4 0 5 10 15 (M.gt m (M.gt s 8)) (M.gt m (M.gt s 9))))
  have HL1 := Lib.hid ((M.len_mix .. : (M.mix v4 0 5 10 15 (M.gt m (M.gt s 8)) (M.gt m (M.gt s 9))).length = _).trans HL.out)
  have HV1 := Lib.hid h1
  have HM1 := Lib.hid ((show Blk w4.drew bm (c32 m) _ from HM.out).keep k1 (show ¬ (fun k => k = bv) bm from HVM.out))
  have HO1 := Lib.hid ((show Blk w4.drew bs (c8 s) _ from HO.out).keep k1 (show ¬ (fun k => k = bv) bs from HVS.out))
  have HK1 := Lib.hid ((HK.out.drew.trans k1 : Keep (· = bv) w w5))
  clear h1 k1 c1 c2 c3 c4 l1 l2 p1 p2 G HS HL HV HM HO HK
  have HS := HS1; have HL := HL1; have HV := HV1; have HM := HM1; have HO := HO1; have HK := HK1
  clear HS1 HL1 HV1 HM1 HO1 HK1
  obtain ⟨v5, he⟩ : ∃ z : List Nat, M.mix v4 0 5 10 15 (M.gt m (M.gt s 8)) (M.gt m (M.gt s 9)) = z := ⟨_, rfl⟩
  rw [he] at HS HL HV
  have HE5 := Lib.hid he
  clear he
  have c1 := HO.out.cellN 10 (c8_at (by rw [HSL.out]; decide))
  have c2 := HO.out.cellN 11 (c8_at (by rw [HSL.out]; decide))
  have l1 : ((M.gt s 10 : Nat) : Int) < 16 := by have := HSS.out 10; omega
  have l2 : ((M.gt s 11 : Nat) : Int) < 16 := by have := HSS.out 11; omega
  have p1 : (0 : Int) ≤ ((M.gt s 10 : Nat) : Int) := by omega
  have p2 : (0 : Int) ≤ ((M.gt s 11 : Nat) : Int) := by omega
  have c3 := HM.out.cellN (M.gt s 10) (c32_at (by rw [HML.out]; exact HSS.out _))
  have c4 := HM.out.cellN (M.gt s 11) (c32_at (by rw [HML.out]; exact HSS.out _))
  go_wp2
  go_still_tail 17, (by kernel_rfl)
  change wpList _ _ _ _ _ w5.drew
  have G := Lib.hid (mix_at bv v5 HL.out HS.out 1 6 11 12 (M.gt m (M.gt s 10)) (M.gt m (M.gt s 11)) 1 6 11 12 (by decide) (M.gt_lt HMS.out _) (M.gt_lt HMS.out _) w5.drew HV.out)
  go_wp2_with ((with_reducible refine G.out.mono ?_); rintro e w6 ⟨rfl, h1, k1⟩)
  have HS1 := Lib.hid (M.small_mix HS.out _ _ _ _ _ _ : M.Small (M.mix v5 1 6 11 12 (M.gt m (M.gt s 10)) (M.gt m (M.gt s 11))))
  have HL1 := Lib.hid ((M.len_mix .. : (M.mix v5 1 6 11 12 (M.gt m (M.gt s 10)) (M.gt m (M.gt s 11))).length = _).trans HL.out)
  have HV1 := Lib.hid h1
  have HM1 := Lib.hid ((show Blk w5.drew bm (c32 m) _ from HM.out).keep k1 (show ¬ (fun k => k = bv) bm from HVM.out))
  have HO1 := Lib.hid ((show Blk w5.drew bs (c8 s) _ from HO.out).keep k1 (show ¬ (fun k => k = bv) bs from HVS.out))
  have HK1 := Lib.hid ((HK.out.drew.trans k1 : Keep (· = bv) w w6))
  clear h1 k1 c1 c2 c3 c4 l1 l2 p1 p2 G HS HL HV HM HO HK
  have HS := HS1; have HL := HL1; have HV := HV1; have HM := HM1; have HO := HO1; have HK := HK1
  clear HS1 HL1 HV1 HM1 HO1 HK1
  obtain ⟨v6, he⟩ : ∃ z : List Nat, M.mix v5 1 6 11 12 (M.gt m (M.gt s 10)) (M.gt m (M.gt s 11)) = z := ⟨_, rfl⟩
  rw [he] at HS HL HV
  have HE6 := Lib.hid he
  clear he
  have c1 := HO.out.cellN 12 (c8_at (by rw [HSL.out]; decide))
  have c2 := HO.out.cellN 13 (c8_at (by rw [HSL.out]; decide))
  have l1 : ((M.gt s 12 : Nat) : Int) < 16 := by have := HSS.out 12; omega
  have l2 : ((M.gt s 13 : Nat) : Int) < 16 := by have := HSS.out 13; omega
  have p1 : (0 : Int) ≤ ((M.gt s 12 : Nat) : Int) := by omega
  have p2 : (0 : Int) ≤ ((M.gt s 13 : Nat) : Int) := by omega
  have c3 := HM.out.cellN (M.gt s 12) (c32_at (by rw [HML.out]; exact HSS.out _))
  have c4 := HM.out.cellN (M.gt s 13) (c32_at (by rw [HML.out]; exact HSS.out _))
  go_wp2
  go_still_tail 17, (by kernel_rfl)
  change wpList _ _ _ _ _ w6.drew
  have G := Lib.hid (mix_at bv v6 HL.out HS.out 2 7 8 13 (M.gt m (M.gt s 12)) (M.gt m (M.gt s 13)) 2 7 8 13 (by decide) (M.gt_lt HMS.out _) (M.gt_lt HMS.out _) w6.drew HV.out)
  go_wp2_with ((with_reducible refine G.out.mono ?_); rintro e w7 ⟨rfl, h1, k1⟩)
  have HS1 := Lib.hid (M.small_mix HS.out _ _ _ _ _ _ : M.Small (M.mix v6 2 7 8 13 (M.gt m (M.gt s 12)) (M.gt m (M.gt s 13))))
  have HL1 := Lib.hid ((M.len_mix .. : (M.mix v6 2 7 8 13 (M.gt m (M.gt s 12)) (M.gt m (M.gt s 13))).length = _).trans HL.out)
  have HV1 := Lib.hid h1
  have HM1 := Lib.hid ((show Blk w6.drew bm (c32 m) _ from HM.out).keep k1 (show ¬ (fun k => k = bv) bm from HVM.out))
  have HO1 := Lib.hid ((show Blk w6.drew bs (c8 s) _ from HO.out).keep k1 (show ¬ (fun k => k = bv) bs from HVS.out))
  have HK1 := Lib.hid ((HK.out.drew.trans k1 : Keep (· = bv) w w7))
  clear h1 k1 c1 c2 c3 c4 l1 l2 p1 p2 G HS HL HV HM HO HK
  have HS := HS1; have HL := HL1; have HV := HV1; have HM := HM1; have HO := HO1; have HK := HK1
  clear HS1 HL1 HV1 HM1 HO1 HK1
  obtain ⟨v7, he⟩ : ∃ z : List Nat, M.mix v6 2 7 8 13 (M.gt m (M.gt s 12)) (M.gt m (M.gt s 13)) = z := ⟨_, rfl⟩
  rw [he] at HS HL HV
  have HE7 := Lib.hid he
  clear he
  have c1 := HO.out.cellN 14 (c8_at (by rw [HSL.out]; decide))
  have c2 := HO.out.cellN 15 (c8_at (by rw [HSL.out]; decide))
  have l1 : ((M.gt s 14 : Nat) : Int) < 16 := by have := HSS.out 14; omega
  have l2 : ((M.gt s 15 : Nat) : Int) < 16 := by have := HSS.out 15; omega
  have p1 : (0 : Int) ≤ ((M.gt s 14 : Nat) : Int) := by omega
  have p2 : (0 : Int) ≤ ((M.gt s 15 : Nat) : Int) := by omega
  have c3 := HM.out.cellN (M.gt s 14) (c32_at (by rw [HML.out]; exact HSS.out _))
  have c4 := HM.out.cellN (M.gt s 15) (c32_at (by rw [HML.out]; exact HSS.out _))
  go_wp2
  go_still_tail 17, (by kernel_rfl)
  change wpList _ _ _ _ _ w7.drew
  have G := Lib.hid (mix_at bv v7 HL.out HS.out 3 4 9 14 (M.gt m (M.gt s 14)) (M.gt m (M.gt s 15)) 3 4 9 14 (by decide) (M.gt_lt HMS.out _) (M.gt_lt HMS.out _) w7.drew HV.out)
  go_wp2_with ((with_reducible refine G.out.mono ?_); rintro e w8 ⟨rfl, h1, k1⟩)
  have HS1 := Lib.hid (M.small_mix HS.out _ _ _ _ _ _ : M.Small (M.mix v7 3 4 9 14 (M.gt m (M.gt s 14)) (M.gt m (M.gt s 15))))
  have HL1 := Lib.hid ((M.len_mix .. : (M.mix v7 3 4 9 14 (M.gt m (M.gt s 14)) (M.gt m (M.gt s 15))).length = _).trans HL.out)
  have HV1 := Lib.hid h1
  have HM1 := Lib.hid ((show Blk w7.drew bm (c32 m) _ from HM.out).keep k1 (show ¬ (fun k => k = bv) bm from HVM.out))
  have HO1 := Lib.hid ((show Blk w7.drew bs (c8 s) _ from HO.out).keep k1 (show ¬ (fun k => k = bv) bs from HVS.out))
  have HK1 := Lib.hid ((HK.out.drew.trans k1 : Keep (· = bv) w w8))
  clear h1 k1 c1 c2 c3 c4 l1 l2 p1 p2 G HS HL HV HM HO HK
  have HS := HS1; have HL := HL1; have HV := HV1; have HM := HM1; have HO := HO1; have HK := HK1
  clear HS1 HL1 HV1 HM1 HO1 HK1
  obtain ⟨v8, he⟩ : ∃ z : List Nat, M.mix v7 3 4 9 14 (M.gt m (M.gt s 14)) (M.gt m (M.gt s 15)) = z := ⟨_, rfl⟩
  rw [he] at HS HL HV
  have HE8 := Lib.hid he
  clear he
  have hr : M.round v m s = v8 := by
    unfold M.round
    simp only [HE1.out, HE2.out, HE3.out, HE4.out, HE5.out, HE6.out, HE7.out, HE8.out]
  go_end0
  exact ⟨rfl, by rw [hr]; exact HV.out, HK.out⟩
end Go.Proofs.YtgodccgbhpannaaDoor
