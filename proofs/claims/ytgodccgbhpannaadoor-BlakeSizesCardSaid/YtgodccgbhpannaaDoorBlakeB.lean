/- The program's mixing of four numbers, and its round. -/
import Derived.Test.YtgodccgbhpannaaDoorBlakeA
import Derived.Deep.RegionWith
import Derived.StillTailTactics
namespace Go.Proofs.YtgodccgbhpannaaDoor
open Go.RowKit

theorem ints_at (k : IntKind) {v : List Nat} {i : Nat} (h : i < v.length) : (v.map fun (n : Nat) => Value.int k (n : Int)).toArray[i]? = some (.int k (M.gt v i : Nat)) := by
  simp [M.gt, List.getD_eq_getElem?_getD, h]
def c32 (v : List Nat) : Array Value := (v.map fun (n : Nat) => Value.int .u32 (n : Int)).toArray
theorem c32_at {v : List Nat} {i : Nat} (h : i < v.length) : (c32 v)[i]? = some (.int .u32 (M.gt v i : Nat)) := ints_at .u32 h
theorem c32_set (v : List Nat) (i x : Nat) : (c32 v).setIfInBounds i (.int .u32 (x : Int)) = c32 (v.set i x) := by
  simp [c32, List.map_set]
theorem Blk.c32_set {w : World} {b : Nat} {v : List Nat} {T : TypeId} (h : Blk w b (c32 v) T) (i x : Nat) : Blk (w.setCell ⟨b, i, none⟩ (.int .u32 (x : Int))) b (c32 (v.set i x)) T := by
  have := h.set i (.int .u32 (x : Int))
  rwa [Proofs.YtgodccgbhpannaaDoor.c32_set] at this

set_option maxHeartbeats 1000000 in

section
variable {w : World} {b : Nat} {v : List Nat} {T : TypeId}
theorem stepA (h : Blk w b (c32 v) T) (i j x : Nat) : ∃ w1, (w.setCell ⟨b, i, none⟩ (.int .u32 (((M.gt v i : Int) + ((M.gt v j : Int) + (x : Int)) % 4294967296) % 4294967296))).drew = w1 ∧ Blk w1 b (c32 (M.mixA v i j x)) T ∧ Keep (· = b) w w1 := by
  refine ⟨_, rfl, ?_, ((Keep.refl _ w).set1 i _).drew⟩
  have e : (((M.gt v i : Int) + ((M.gt v j : Int) + (x : Int)) % 4294967296) % 4294967296) = (((M.gt v i + M.gt v j + x) % 4294967296 : Nat) : Int) := by omega
  rw [e]
  exact h.c32_set i _
theorem stepC (h : Blk w b (c32 v) T) (i j : Nat) : ∃ w1, (w.setCell ⟨b, i, none⟩ (.int .u32 (((M.gt v i : Int) + (M.gt v j : Int)) % 4294967296))).drew = w1 ∧ Blk w1 b (c32 (M.mixC v i j)) T ∧ Keep (· = b) w w1 := by
  refine ⟨_, rfl, ?_, ((Keep.refl _ w).set1 i _).drew⟩
  have e : (((M.gt v i : Int) + (M.gt v j : Int)) % 4294967296) = (((M.gt v i + M.gt v j) % 4294967296 : Nat) : Int) := by omega
  rw [e]
  exact h.c32_set i _
theorem stepR (h : Blk w b (c32 v) T) (i j n : Nat) : ∃ w1, (w.setCell ⟨b, i, none⟩ (.int .u32 ((M.rot (M.gt v i ^^^ M.gt v j) n : Nat) : Int))).drew = w1 ∧ Blk w1 b (c32 (M.mixR v i j n)) T ∧ Keep (· = b) w w1 :=
  ⟨_, rfl, h.c32_set i _, ((Keep.refl _ w).set1 i _).drew⟩
end

set_option maxHeartbeats 4000000 in
set_option maxRecDepth 100000 in
theorem mix_any (bv : Nat) (v : List Nat) (hl : v.length = 16) (hs : M.Small v) (a b c d x y : Nat) (ha : a < 16) (hb : b < 16) (hc : c < 16) (hd : d < 16) (_ : x < 4294967296) (_ : y < 4294967296) (w : World) (h : Blk w bv (c32 v) 32) :
    Calls Tryd.prog 20 #[.pointer (some ⟨bv, 0, none⟩), .int .i64 a, .int .i64 b, .int .i64 c, .int .i64 d, .int .u32 x, .int .u32 y] w fun e w' =>
      e = .returned (.tuple #[]) ∧ Blk w' bv (c32 (M.mix v a b c d x y)) 32 ∧ Keep (· = bv) w w' := by
  have ia : (a : Int) < 16 := by omega
  have ib : (b : Int) < 16 := by omega
  have ic : (c : Int) < 16 := by omega
  have id : (d : Int) < 16 := by omega
  have ja : (0 : Int) ≤ (a : Int) := by omega
  have jb : (0 : Int) ≤ (b : Int) := by omega
  have jc : (0 : Int) ≤ (c : Int) := by omega
  have jd : (0 : Int) ≤ (d : Int) := by omega
  have HL := Lib.hid hl
  have HS := Lib.hid hs
  clear hl hs
  have H := Lib.hid h
  have HK := Lib.hid (Keep.refl (· = bv) w)
  clear h
  go_enter Tryd.func20, Tryd.ntmps20
  have hci := H.out.cellN a (c32_at (by rw [HL.out]; exact ha))
  have hcj := H.out.cellN b (c32_at (by rw [HL.out]; exact hb))
  have hfi := H.out.free a
  go_wp2
  go_still_tail 15, (by kernel_rfl)
  change wpList _ _ _ _ _ w.drew
  go_wp2
  obtain ⟨w1, e1, h1, k1⟩ := stepA H.out a b x
  rw [e1]
  have HS1 := Lib.hid (M.small_mixA HS.out _ _ _ : M.Small (M.mixA v a b x))
  have HL1 := Lib.hid ((M.len_mixA .. : (M.mixA v a b x).length = _).trans HL.out)
  have H1 := Lib.hid h1
  have HK1 := Lib.hid (HK.out.trans k1)
  clear e1 h1 k1 hci hcj hfi HS HL H HK
  have HS := HS1; have HL := HL1; have H := H1; have HK := HK1
  clear HS1 HL1 H1 HK1
  obtain ⟨v1, he⟩ : ∃ z : List Nat, M.mixA v a b x = z := ⟨_, rfl⟩
  rw [he] at HS HL H
  have HE1 := Lib.hid he
  clear he
  have hci := H.out.cellN d (c32_at (by rw [HL.out]; exact hd))
  have hcj := H.out.cellN a (c32_at (by rw [HL.out]; exact ha))
  have hfi := H.out.free d
  have hxo := u32_xor_nat _ _ (M.gt_lt HS.out d) (M.gt_lt HS.out a)
  go_wp2
  go_still_tail 16, (by kernel_rfl)
  still_call (rotate_any (M.gt v1 d ^^^ M.gt v1 a) (M.xor_lt (M.gt_lt HS.out d) (M.gt_lt HS.out a)) 16 16 (by decide) _)
  repeat still_step
  refine wpStill_nil ?_
  change wpList _ _ _ _ _ w1.drew
  go_wp2
  obtain ⟨w2, e1, h1, k1⟩ := stepR H.out d a 16
  rw [e1]
  have HS1 := Lib.hid (M.small_mixR HS.out _ _ _ : M.Small (M.mixR v1 d a 16))
  have HL1 := Lib.hid ((M.len_mixR .. : (M.mixR v1 d a 16).length = _).trans HL.out)
  have H1 := Lib.hid h1
  have HK1 := Lib.hid (HK.out.trans k1)
  clear e1 h1 k1 hci hcj hfi hxo HS HL H HK
  have HS := HS1; have HL := HL1; have H := H1; have HK := HK1
  clear HS1 HL1 H1 HK1
  obtain ⟨v2, he⟩ : ∃ z : List Nat, M.mixR v1 d a 16 = z := ⟨_, rfl⟩
  rw [he] at HS HL H
  have HE2 := Lib.hid he
  clear he
  have hci := H.out.cellN c (c32_at (by rw [HL.out]; exact hc))
  have hcj := H.out.cellN d (c32_at (by rw [HL.out]; exact hd))
  have hfi := H.out.free c
  go_wp2
  go_still_tail 13, (by kernel_rfl)
  change wpList _ _ _ _ _ w2.drew
  go_wp2
  obtain ⟨w3, e1, h1, k1⟩ := stepC H.out c d
  rw [e1]
  have HS1 := Lib.hid (M.small_mixC HS.out _ _ : M.Small (M.mixC v2 c d))
  have HL1 := Lib.hid ((M.len_mixC .. : (M.mixC v2 c d).length = _).trans HL.out)
  have H1 := Lib.hid h1
  have HK1 := Lib.hid (HK.out.trans k1)
  clear e1 h1 k1 hci hcj hfi HS HL H HK
  have HS := HS1; have HL := HL1; have H := H1; have HK := HK1
  clear HS1 HL1 H1 HK1
  obtain ⟨v3, he⟩ : ∃ z : List Nat, M.mixC v2 c d = z := ⟨_, rfl⟩
  rw [he] at HS HL H
  have HE3 := Lib.hid he
  clear he
  have hci := H.out.cellN b (c32_at (by rw [HL.out]; exact hb))
  have hcj := H.out.cellN c (c32_at (by rw [HL.out]; exact hc))
  have hfi := H.out.free b
  have hxo := u32_xor_nat _ _ (M.gt_lt HS.out b) (M.gt_lt HS.out c)
  go_wp2
  go_still_tail 16, (by kernel_rfl)
  still_call (rotate_any (M.gt v3 b ^^^ M.gt v3 c) (M.xor_lt (M.gt_lt HS.out b) (M.gt_lt HS.out c)) 12 12 (by decide) _)
  repeat still_step
  refine wpStill_nil ?_
  change wpList _ _ _ _ _ w3.drew
  go_wp2
  obtain ⟨w4, e1, h1, k1⟩ := stepR H.out b c 12
  rw [e1]
  have HS1 := Lib.hid (M.small_mixR HS.out _ _ _ : M.Small (M.mixR v3 b c 12))
  have HL1 := Lib.hid ((M.len_mixR .. : (M.mixR v3 b c 12).length = _).trans HL.out)
  have H1 := Lib.hid h1
  have HK1 := Lib.hid (HK.out.trans k1)
  clear e1 h1 k1 hci hcj hfi hxo HS HL H HK
  have HS := HS1; have HL := HL1; have H := H1; have HK := HK1
  clear HS1 HL1 H1 HK1
  obtain ⟨v4, he⟩ : ∃ z : List Nat, M.mixR v3 b c 12 = z := ⟨_, rfl⟩
  rw [he] at HS HL H
  have HE4 := Lib.hid he
  clear he
  have hci := H.out.cellN a (c32_at (by rw [HL.out]; exact ha))
  have hcj := H.out.cellN b (c32_at (by rw [HL.out]; exact hb))
  have hfi := H.out.free a
  go_wp2
  go_still_tail 15, (by kernel_rfl)
  change wpList _ _ _ _ _ w4.drew
  go_wp2
  obtain ⟨w5, e1, h1, k1⟩ := stepA H.out a b y
  rw [e1]
  have HS1 := Lib.hid (M.small_mixA HS.out _ _ _ : M.Small (M.mixA v4 a b y))
  have HL1 := Lib.hid ((M.len_mixA .. : (M.mixA v4 a b y).length = _).trans HL.out)
  have H1 := Lib.hid h1
  have HK1 := Lib.hid (HK.out.trans k1)
  clear e1 h1 k1 hci hcj hfi HS HL H HK
  have HS := HS1; have HL := HL1; have H := H1; have HK := HK1
  clear HS1 HL1 H1 HK1
  obtain ⟨v5, he⟩ : ∃ z : List Nat, M.mixA v4 a b y = z := ⟨_, rfl⟩
  rw [he] at HS HL H
  have HE5 := Lib.hid he
  clear he
  have hci := H.out.cellN d (c32_at (by rw [HL.out]; exact hd))
  have hcj := H.out.cellN a (c32_at (by rw [HL.out]; exact ha))
  have hfi := H.out.free d
  have hxo := u32_xor_nat _ _ (M.gt_lt HS.out d) (M.gt_lt HS.out a)
  go_wp2
  go_still_tail 16, (by kernel_rfl)
  still_call (rotate_any (M.gt v5 d ^^^ M.gt v5 a) (M.xor_lt (M.gt_lt HS.out d) (M.gt_lt HS.out a)) 8 8 (by decide) _)
  repeat still_step
  refine wpStill_nil ?_
  change wpList _ _ _ _ _ w5.drew
  go_wp2
  obtain ⟨w6, e1, h1, k1⟩ := stepR H.out d a 8
  rw [e1]
  have HS1 := Lib.hid (M.small_mixR HS.out _ _ _ : M.Small (M.mixR v5 d a 8))
  have HL1 := Lib.hid ((M.len_mixR .. : (M.mixR v5 d a 8).length = _).trans HL.out)
  have H1 := Lib.hid h1
  have HK1 := Lib.hid (HK.out.trans k1)
  clear e1 h1 k1 hci hcj hfi hxo HS HL H HK
  have HS := HS1; have HL := HL1; have H := H1; have HK := HK1
  clear HS1 HL1 H1 HK1
  obtain ⟨v6, he⟩ : ∃ z : List Nat, M.mixR v5 d a 8 = z := ⟨_, rfl⟩
  rw [he] at HS HL H
  have HE6 := Lib.hid he
  clear he
  have hci := H.out.cellN c (c32_at (by rw [HL.out]; exact hc))
  have hcj := H.out.cellN d (c32_at (by rw [HL.out]; exact hd))
  have hfi := H.out.free c
  go_wp2
  go_still_tail 13, (by kernel_rfl)
  change wpList _ _ _ _ _ w6.drew
  go_wp2
  obtain ⟨w7, e1, h1, k1⟩ := stepC H.out c d
  rw [e1]
  have HS1 := Lib.hid (M.small_mixC HS.out _ _ : M.Small (M.mixC v6 c d))
  have HL1 := Lib.hid ((M.len_mixC .. : (M.mixC v6 c d).length = _).trans HL.out)
  have H1 := Lib.hid h1
  have HK1 := Lib.hid (HK.out.trans k1)
  clear e1 h1 k1 hci hcj hfi HS HL H HK
  have HS := HS1; have HL := HL1; have H := H1; have HK := HK1
  clear HS1 HL1 H1 HK1
  obtain ⟨v7, he⟩ : ∃ z : List Nat, M.mixC v6 c d = z := ⟨_, rfl⟩
  rw [he] at HS HL H
  have HE7 := Lib.hid he
  clear he
  have hci := H.out.cellN b (c32_at (by rw [HL.out]; exact hb))
  have hcj := H.out.cellN c (c32_at (by rw [HL.out]; exact hc))
  have hfi := H.out.free b
  have hxo := u32_xor_nat _ _ (M.gt_lt HS.out b) (M.gt_lt HS.out c)
  go_wp2
  go_still_tail 16, (by kernel_rfl)
  still_call (rotate_any (M.gt v7 b ^^^ M.gt v7 c) (M.xor_lt (M.gt_lt HS.out b) (M.gt_lt HS.out c)) 7 7 (by decide) _)
  repeat still_step
  refine wpStill_nil ?_
  change wpList _ _ _ _ _ w7.drew
  go_wp2
  obtain ⟨w8, e1, h1, k1⟩ := stepR H.out b c 7
  rw [e1]
  have HS1 := Lib.hid (M.small_mixR HS.out _ _ _ : M.Small (M.mixR v7 b c 7))
  have HL1 := Lib.hid ((M.len_mixR .. : (M.mixR v7 b c 7).length = _).trans HL.out)
  have H1 := Lib.hid h1
  have HK1 := Lib.hid (HK.out.trans k1)
  clear e1 h1 k1 hci hcj hfi hxo HS HL H HK
  have HS := HS1; have HL := HL1; have H := H1; have HK := HK1
  clear HS1 HL1 H1 HK1
  obtain ⟨v8, he⟩ : ∃ z : List Nat, M.mixR v7 b c 7 = z := ⟨_, rfl⟩
  rw [he] at HS HL H
  have HE8 := Lib.hid he
  clear he
  have hm : M.mix v a b c d x y = v8 := by
    unfold M.mix M.mixH
    rw [HE1.out, HE2.out, HE3.out, HE4.out, HE5.out, HE6.out, HE7.out, HE8.out]
  go_end0
  exact ⟨rfl, by rw [hm]; exact H.out, HK.out⟩
end Go.Proofs.YtgodccgbhpannaaDoor
