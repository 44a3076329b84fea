/- The document's mixing of four numbers. -/
import Derived.Test.YtgodccgbhpannaaDoorBlakeB
import Derived.Test.YtgodccgbhpannaaDoorRow
import Derived.Deep.RegionWith
namespace Go.Proofs.YtgodccgbhpannaaDoor
open Go.RowKit

def l64 (v : List Nat) : List Value := v.map fun (n : Nat) => Value.int .i64 (n : Int)
theorem l64_len (v : List Nat) : (l64 v).length = v.length := by simp [l64]
theorem l64_at {v : List Nat} {i : Nat} (h : i < v.length) : (l64 v)[i]? = some (.int .i64 (M.gt v i : Nat)) := by
  simp [l64, M.gt, List.getD_eq_getElem?_getD, h]
theorem l64_set (v : List Nat) (i x : Nat) : (l64 v).set i (.int .i64 (x : Int)) = l64 (v.set i x) := by
  simp [l64, List.map_set]
section
variable {w : World} {b : Nat} {v : List Nat} {T : TypeId}
theorem Row.l64_set (h : Row w b (l64 v) T) {i : Nat} (hi : i < v.length) (x : Nat) : Row (w.setCell ⟨b, i, none⟩ (.int .i64 (x : Int))) b (l64 (v.set i x)) T := by
  have := h.set (i := i) (by rw [l64_len]; exact hi) (.int .i64 (x : Int))
  rwa [Proofs.YtgodccgbhpannaaDoor.l64_set] at this
theorem rstepA (h : Row w b (l64 v) T) (i j x : Nat) (hi : i < v.length) : ∃ w1, (w.setCell ⟨b, i, none⟩ (.int .i64 (((M.gt v i : Int) + (M.gt v j : Int) + (x : Int)) % 4294967296))).drew = w1 ∧ Row w1 b (l64 (M.mixA v i j x)) T ∧ Keep (· = b) w w1 := by
  refine ⟨_, rfl, ?_, ((Keep.refl _ w).set1 i _).drew⟩
  have e : (((M.gt v i : Int) + (M.gt v j : Int) + (x : Int)) % 4294967296) = (((M.gt v i + M.gt v j + x) % 4294967296 : Nat) : Int) := by omega
  rw [e]
  exact h.l64_set hi _
theorem rstepC (h : Row w b (l64 v) T) (i j : Nat) (hi : i < v.length) : ∃ w1, (w.setCell ⟨b, i, none⟩ (.int .i64 (((M.gt v i : Int) + (M.gt v j : Int)) % 4294967296))).drew = w1 ∧ Row w1 b (l64 (M.mixC v i j)) T ∧ Keep (· = b) w w1 := by
  refine ⟨_, rfl, ?_, ((Keep.refl _ w).set1 i _).drew⟩
  have e : (((M.gt v i : Int) + (M.gt v j : Int)) % 4294967296) = (((M.gt v i + M.gt v j) % 4294967296 : Nat) : Int) := by omega
  rw [e]
  exact h.l64_set hi _
theorem rstepR (h : Row w b (l64 v) T) (i j n : Nat) (hi : i < v.length) : Row (w.setCell ⟨b, i, none⟩ (.int .i64 ((M.rot (M.gt v i ^^^ M.gt v j) n : Nat) : Int))) b (l64 (M.mixR v i j n)) T ∧ Keep (· = b) w (w.setCell ⟨b, i, none⟩ (.int .i64 ((M.rot (M.gt v i ^^^ M.gt v j) n : Nat) : Int))) :=
  ⟨h.l64_set hi _, (Keep.refl _ w).set1 i _⟩
end

set_option maxHeartbeats 4000000 in
set_option maxRecDepth 100000 in
theorem rmix_any (bv cap : Nat) (v : List Nat) (hl : v.length = 16) (hs : M.Small v) (a b c d x y : Nat) (ha : a < 16) (hb : b < 16) (hc : c < 16) (hd : d < 16) (hx : x < 4294967296) (hy : y < 4294967296) (w : World) (h : Row w bv (l64 v) 3) :
    Calls Tryd.prog 19 #[.slice (some ⟨bv, 0, none⟩) 16 cap, .int .i64 a, .int .i64 b, .int .i64 c, .int .i64 d, .int .i64 x, .int .i64 y] w fun e w' =>
      e = .returned (.tuple #[]) ∧ Row w' bv (l64 (M.mix v a b c d x y)) 3 ∧ Keep (· = bv) w w' := by
  have ia : (a : Int) < 16 := by omega
  have ib : (b : Int) < 16 := by omega
  have ic : (c : Int) < 16 := by omega
  have id : (d : Int) < 16 := by omega
  have ja : (0 : Int) ≤ (a : Int) := by omega
  have jb : (0 : Int) ≤ (b : Int) := by omega
  have jc : (0 : Int) ≤ (c : Int) := by omega
  have jd : (0 : Int) ≤ (d : Int) := by omega
  have HL := Lib.hid hl
  have HS := Lib.hid hs
  clear hl hs
  have H := Lib.hid h
  have HK := Lib.hid (Keep.refl (· = bv) w)
  clear h
  go_enter Tryd.func19, Tryd.ntmps19
  have hci := H.out.cellN a (l64_at (by rw [HL.out]; exact ha))
  have hcj := H.out.cellN b (l64_at (by rw [HL.out]; exact hb))
  have hfi := H.out.free a
  have gi : M.gt v a < 4294967296 := M.gt_lt HS.out a
  have gj : M.gt v b < 4294967296 := M.gt_lt HS.out b
  have e2 : IntKind.i64.wrap ((M.gt v a : Int) + (M.gt v b : Int)) = (M.gt v a : Int) + (M.gt v b : Int) := IntWalk.i64_in _ (by omega)
  have e3 : IntKind.i64.wrap ((M.gt v a : Int) + (M.gt v b : Int) + (x : Int)) = (M.gt v a : Int) + (M.gt v b : Int) + (x : Int) := IntWalk.i64_in _ (by omega)
  have e4 : ((M.gt v a : Int) + (M.gt v b : Int) + (x : Int)).tmod 4294967296 = ((M.gt v a : Int) + (M.gt v b : Int) + (x : Int)) % 4294967296 := Int.tmod_eq_emod_of_nonneg (by omega)
  go_wp2
  go_still_tail 15, (by kernel_rfl)
  change wpList _ _ _ _ _ w.drew
  go_wp2
  obtain ⟨w1, e1, h1, k1⟩ := rstepA H.out a b x (by rw [HL.out]; exact ha)
  rw [e1]
  have HS1 := Lib.hid (M.small_mixA HS.out _ _ _ : M.Small (M.mixA v a b x))
  have HL1 := Lib.hid ((M.len_mixA .. : (M.mixA v a b x).length = _).trans HL.out)
  have H1 := Lib.hid h1
  have HK1 := Lib.hid (HK.out.trans k1)
  clear e1 h1 k1 hci hcj hfi e2 e3 e4 HS HL H HK gi gj
  have HS := HS1; have HL := HL1; have H := H1; have HK := HK1
  clear HS1 HL1 H1 HK1
  obtain ⟨v1, he⟩ : ∃ z : List Nat, M.mixA v a b x = z := ⟨_, rfl⟩
  rw [he] at HS HL H
  have HE1 := Lib.hid he
  clear he
  have hci := H.out.cellN d (l64_at (by rw [HL.out]; exact hd))
  have hcj := H.out.cellN a (l64_at (by rw [HL.out]; exact ha))
  have hfi := H.out.free d
  have gi : M.gt v1 d < 4294967296 := M.gt_lt HS.out d
  have gj : M.gt v1 a < 4294967296 := M.gt_lt HS.out a
  have hxo := i64_xor_nat (M.gt v1 d) (M.gt v1 a) (by omega) (by omega)
  go_wp2
  have G := Lib.hid (fun w1 => turned_any (M.gt v1 d ^^^ M.gt v1 a) (M.xor_lt gi gj) 16 16 (by decide) w1)
  apply cut_here
  · intro key
    go_region_with ((with_reducible refine (G.out _).mono ?_); rintro e wq ⟨rfl, nq, rfl⟩)
    · revert nq; exact key.out
    · revert nq; exact key.out
  intro nq
  clear G
  have h0 := (H.out.drewN (1 + nq))
  have hst := rstepR h0 d a 16 (by rw [HL.out]; exact hd)
  have h1 := hst.1
  have k1 := (Keep.drewN (Keep.refl (· = bv) w1) (1 + nq)).trans hst.2
  generalize ((w1.drewN (1 + nq)).setCell ⟨bv, d, none⟩ _) = w2 at *
  clear hst h0
  have HS1 := Lib.hid (M.small_mixR HS.out _ _ _ : M.Small (M.mixR v1 d a 16))
  have HL1 := Lib.hid ((M.len_mixR .. : (M.mixR v1 d a 16).length = _).trans HL.out)
  have H1 := Lib.hid h1
  have HK1 := Lib.hid (HK.out.trans k1)
  clear h1 k1 hci hcj hfi hxo HS HL H HK gi gj
  have HS := HS1; have HL := HL1; have H := H1; have HK := HK1
  clear HS1 HL1 H1 HK1
  obtain ⟨v2, he⟩ : ∃ z : List Nat, M.mixR v1 d a 16 = z := ⟨_, rfl⟩
  rw [he] at HS HL H
  have HE2 := Lib.hid he
  clear he
  have hci := H.out.cellN c (l64_at (by rw [HL.out]; exact hc))
  have hcj := H.out.cellN d (l64_at (by rw [HL.out]; exact hd))
  have hfi := H.out.free c
  have gi : M.gt v2 c < 4294967296 := M.gt_lt HS.out c
  have gj : M.gt v2 d < 4294967296 := M.gt_lt HS.out d
  have e2 : IntKind.i64.wrap ((M.gt v2 c : Int) + (M.gt v2 d : Int)) = (M.gt v2 c : Int) + (M.gt v2 d : Int) := IntWalk.i64_in _ (by omega)
  have e3 : True := trivial
  have e4 : ((M.gt v2 c : Int) + (M.gt v2 d : Int)).tmod 4294967296 = ((M.gt v2 c : Int) + (M.gt v2 d : Int)) % 4294967296 := Int.tmod_eq_emod_of_nonneg (by omega)
  go_wp2
  go_still_tail 13, (by kernel_rfl)
  change wpList _ _ _ _ _ w2.drew
  go_wp2
  obtain ⟨w3, e1, h1, k1⟩ := rstepC H.out c d (by rw [HL.out]; exact hc)
  rw [e1]
  have HS1 := Lib.hid (M.small_mixC HS.out _ _ : M.Small (M.mixC v2 c d))
  have HL1 := Lib.hid ((M.len_mixC .. : (M.mixC v2 c d).length = _).trans HL.out)
  have H1 := Lib.hid h1
  have HK1 := Lib.hid (HK.out.trans k1)
  clear e1 h1 k1 hci hcj hfi e2 e3 e4 HS HL H HK gi gj
  have HS := HS1; have HL := HL1; have H := H1; have HK := HK1
  clear HS1 HL1 H1 HK1
  obtain ⟨v3, he⟩ : ∃ z : List Nat, M.mixC v2 c d = z := ⟨_, rfl⟩
  rw [he] at HS HL H
  have HE3 := Lib.hid he
  clear he
  have hci := H.out.cellN b (l64_at (by rw [HL.out]; exact hb))
  have hcj := H.out.cellN c (l64_at (by rw [HL.out]; exact hc))
  have hfi := H.out.free b
  have gi : M.gt v3 b < 4294967296 := M.gt_lt HS.out b
  have gj : M.gt v3 c < 4294967296 := M.gt_lt HS.out c
  have hxo := i64_xor_nat (M.gt v3 b) (M.gt v3 c) (by omega) (by omega)
  go_wp2
  have G := Lib.hid (fun w1 => turned_any (M.gt v3 b ^^^ M.gt v3 c) (M.xor_lt gi gj) 12 12 (by decide) w1)
  apply cut_here
  · intro key
    go_region_with ((with_reducible refine (G.out _).mono ?_); rintro e wq ⟨rfl, nq, rfl⟩)
    · revert nq; exact key.out
    · revert nq; exact key.out
  intro nq
  clear G
  have h0 := (H.out.drewN (1 + nq))
  have hst := rstepR h0 b c 12 (by rw [HL.out]; exact hb)
  have h1 := hst.1
  have k1 := (Keep.drewN (Keep.refl (· = bv) w3) (1 + nq)).trans hst.2
  generalize ((w3.drewN (1 + nq)).setCell ⟨bv, b, none⟩ _) = w4 at *
  clear hst h0
  have HS1 := Lib.hid (M.small_mixR HS.out _ _ _ : M.Small (M.mixR v3 b c 12))
  have HL1 := Lib.hid ((M.len_mixR .. : (M.mixR v3 b c 12).length = _).trans HL.out)
  have H1 := Lib.hid h1
  have HK1 := Lib.hid (HK.out.trans k1)
  clear h1 k1 hci hcj hfi hxo HS HL H HK gi gj
  have HS := HS1; have HL := HL1; have H := H1; have HK := HK1
  clear HS1 HL1 H1 HK1
  obtain ⟨v4, he⟩ : ∃ z : List Nat, M.mixR v3 b c 12 = z := ⟨_, rfl⟩
  rw [he] at HS HL H
  have HE4 := Lib.hid he
  clear he
  have hci := H.out.cellN a (l64_at (by rw [HL.out]; exact ha))
  have hcj := H.out.cellN b (l64_at (by rw [HL.out]; exact hb))
  have hfi := H.out.free a
  have gi : M.gt v4 a < 4294967296 := M.gt_lt HS.out a
  have gj : M.gt v4 b < 4294967296 := M.gt_lt HS.out b
  have e2 : IntKind.i64.wrap ((M.gt v4 a : Int) + (M.gt v4 b : Int)) = (M.gt v4 a : Int) + (M.gt v4 b : Int) := IntWalk.i64_in _ (by omega)
  have e3 : IntKind.i64.wrap ((M.gt v4 a : Int) + (M.gt v4 b : Int) + (y : Int)) = (M.gt v4 a : Int) + (M.gt v4 b : Int) + (y : Int) := IntWalk.i64_in _ (by omega)
  have e4 : ((M.gt v4 a : Int) + (M.gt v4 b : Int) + (y : Int)).tmod 4294967296 = ((M.gt v4 a : Int) + (M.gt v4 b : Int) + (y : Int)) % 4294967296 := Int.tmod_eq_emod_of_nonneg (by omega)
  go_wp2
  go_still_tail 15, (by kernel_rfl)
  change wpList _ _ _ _ _ w4.drew
  go_wp2
  obtain ⟨w5, e1, h1, k1⟩ := rstepA H.out a b y (by rw [HL.out]; exact ha)
  rw [e1]
  have HS1 := Lib.hid (M.small_mixA HS.out _ _ _ : M.Small (M.mixA v4 a b y))
  have HL1 := Lib.hid ((M.len_mixA .. : (M.mixA v4 a b y).length = _).trans HL.out)
  have H1 := Lib.hid h1
  have HK1 := Lib.hid (HK.out.trans k1)
  clear e1 h1 k1 hci hcj hfi e2 e3 e4 HS HL H HK gi gj
  have HS := HS1; have HL := HL1; have H := H1; have HK := HK1
  clear HS1 HL1 H1 HK1
  obtain ⟨v5, he⟩ : ∃ z : List Nat, M.mixA v4 a b y = z := ⟨_, rfl⟩
  rw [he] at HS HL H
  have HE5 := Lib.hid he
  clear he
  have hci := H.out.cellN d (l64_at (by rw [HL.out]; exact hd))
  have hcj := H.out.cellN a (l64_at (by rw [HL.out]; exact ha))
  have hfi := H.out.free d
  have gi : M.gt v5 d < 4294967296 := M.gt_lt HS.out d
  have gj : M.gt v5 a < 4294967296 := M.gt_lt HS.out a
  have hxo := i64_xor_nat (M.gt v5 d) (M.gt v5 a) (by omega) (by omega)
  go_wp2
  have G := Lib.hid (fun w1 => turned_any (M.gt v5 d ^^^ M.gt v5 a) (M.xor_lt gi gj) 8 8 (by decide) w1)
  apply cut_here
  · intro key
    go_region_with ((with_reducible refine (G.out _).mono ?_); rintro e wq ⟨rfl, nq, rfl⟩)
    · revert nq; exact key.out
    · revert nq; exact key.out
  intro nq
  clear G
  have h0 := (H.out.drewN (1 + nq))
  have hst := rstepR h0 d a 8 (by rw [HL.out]; exact hd)
  have h1 := hst.1
  have k1 := (Keep.drewN (Keep.refl (· = bv) w5) (1 + nq)).trans hst.2
  generalize ((w5.drewN (1 + nq)).setCell ⟨bv, d, none⟩ _) = w6 at *
  clear hst h0
  have HS1 := Lib.hid (M.small_mixR HS.out _ _ _ : M.Small (M.mixR v5 d a 8))
  have HL1 := Lib.hid ((M.len_mixR .. : (M.mixR v5 d a 8).length = _).trans HL.out)
  have H1 := Lib.hid h1
  have HK1 := Lib.hid (HK.out.trans k1)
  clear h1 k1 hci hcj hfi hxo HS HL H HK gi gj
  have HS := HS1; have HL := HL1; have H := H1; have HK := HK1
  clear HS1 HL1 H1 HK1
  obtain ⟨v6, he⟩ : ∃ z : List Nat, M.mixR v5 d a 8 = z := ⟨_, rfl⟩
  rw [he] at HS HL H
  have HE6 := Lib.hid he
  clear he
  have hci := H.out.cellN c (l64_at (by rw [HL.out]; exact hc))
  have hcj := H.out.cellN d (l64_at (by rw [HL.out]; exact hd))
  have hfi := H.out.free c
  have gi : M.gt v6 c < 4294967296 := M.gt_lt HS.out c
  have gj : M.gt v6 d < 4294967296 := M.gt_lt HS.out d
  have e2 : IntKind.i64.wrap ((M.gt v6 c : Int) + (M.gt v6 d : Int)) = (M.gt v6 c : Int) + (M.gt v6 d : Int) := IntWalk.i64_in _ (by omega)
  have e3 : True := trivial
  have e4 : ((M.gt v6 c : Int) + (M.gt v6 d : Int)).tmod 4294967296 = ((M.gt v6 c : Int) + (M.gt v6 d : Int)) % 4294967296 := Int.tmod_eq_emod_of_nonneg (by omega)
  go_wp2
  go_still_tail 13, (by kernel_rfl)
  change wpList _ _ _ _ _ w6.drew
  go_wp2
  obtain ⟨w7, e1, h1, k1⟩ := rstepC H.out c d (by rw [HL.out]; exact hc)
  rw [e1]
  have HS1 := Lib.hid (M.small_mixC HS.out _ _ : M.Small (M.mixC v6 c d))
  have HL1 := Lib.hid ((M.len_mixC .. : (M.mixC v6 c d).length = _).trans HL.out)
  have H1 := Lib.hid h1
  have HK1 := Lib.hid (HK.out.trans k1)
  clear e1 h1 k1 hci hcj hfi e2 e3 e4 HS HL H HK gi gj
  have HS := HS1; have HL := HL1; have H := H1; have HK := HK1
  clear HS1 HL1 H1 HK1
  obtain ⟨v7, he⟩ : ∃ z : List Nat, M.mixC v6 c d = z := ⟨_, rfl⟩
  rw [he] at HS HL H
  have HE7 := Lib.hid he
  clear he
  have hci := H.out.cellN b (l64_at (by rw [HL.out]; exact hb))
  have hcj := H.out.cellN c (l64_at (by rw [HL.out]; exact hc))
  have hfi := H.out.free b
  have gi : M.gt v7 b < 4294967296 := M.gt_lt HS.out b
  have gj : M.gt v7 c < 4294967296 := M.gt_lt HS.out c
  have hxo := i64_xor_nat (M.gt v7 b) (M.gt v7 c) (by omega) (by omega)
  go_wp2
  have G := Lib.hid (fun w1 => turned_any (M.gt v7 b ^^^ M.gt v7 c) (M.xor_lt gi gj) 7 7 (by decide) w1)
  apply cut_here
  · intro key
    go_region_with ((with_reducible refine (G.out _).mono ?_); rintro e wq ⟨rfl, nq, rfl⟩)
    · revert nq; exact key.out
    · revert nq; exact key.out
  intro nq
  clear G
  have h0 := (H.out.drewN (1 + nq))
  have hst := rstepR h0 b c 7 (by rw [HL.out]; exact hb)
  have h1 := hst.1
  have k1 := (Keep.drewN (Keep.refl (· = bv) w7) (1 + nq)).trans hst.2
  generalize ((w7.drewN (1 + nq)).setCell ⟨bv, b, none⟩ _) = w8 at *
  clear hst h0
  have HS1 := Lib.hid (M.small_mixR HS.out _ _ _ : M.Small (M.mixR v7 b c 7))
  have HL1 := Lib.hid ((M.len_mixR .. : (M.mixR v7 b c 7).length = _).trans HL.out)
  have H1 := Lib.hid h1
  have HK1 := Lib.hid (HK.out.trans k1)
  clear h1 k1 hci hcj hfi hxo HS HL H HK gi gj
  have HS := HS1; have HL := HL1; have H := H1; have HK := HK1
  clear HS1 HL1 H1 HK1
  obtain ⟨v8, he⟩ : ∃ z : List Nat, M.mixR v7 b c 7 = z := ⟨_, rfl⟩
  rw [he] at HS HL H
  have HE8 := Lib.hid he
  clear he
  have hm : M.mix v a b c d x y = v8 := by
    unfold M.mix M.mixH
    rw [HE1.out, HE2.out, HE3.out, HE4.out, HE5.out, HE6.out, HE7.out, HE8.out]
  go_end0
  exact ⟨rfl, by rw [hm]; exact H.out, HK.out⟩
end Go.Proofs.YtgodccgbhpannaaDoor
