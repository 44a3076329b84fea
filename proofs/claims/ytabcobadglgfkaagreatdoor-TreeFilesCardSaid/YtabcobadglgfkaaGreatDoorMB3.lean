/- Merged of: LaidB RefBA RefBB RefBC. -/
import Derived.Test.YtabcobadglgfkaaGreatDoorMC1
import Derived.Test.YtabcobadglgfkaaGreatDoorMB2
import Derived.Test.YtabcobadglgfkaaGreatDoorMB1
import Derived.Lib.LaidU8
import Derived.Deep.RegionWith
/- The two tables of package blake, out of the listed variables. -/
namespace Go.Proofs.YtabcobadglgfkaaGreatDoor
open Go.RowKit

theorem chunk_ext {α : Type} (a b : List α) (ha : a.length = 160) (hb : b.length = 160) (h : ∀ i < 10, (a.drop (i * 16)).take 16 = (b.drop (i * 16)).take 16) : a = b := by
  apply List.ext_getElem?
  intro j
  by_cases hj : j < 160
  · have hi : j / 16 < 10 := by omega
    have e := congrArg (fun l => l[j % 16]?) (h (j / 16) hi)
    have hm : j % 16 < 16 := Nat.mod_lt _ (by decide)
    simp only [List.getElem?_take, hm, if_true, List.getElem?_drop] at e
    rw [show j / 16 * 16 + j % 16 = j from by omega] at e
    exact e
  · rw [List.getElem?_eq_none (by omega), List.getElem?_eq_none (by omega)]
theorem initial_type : (Tryz.prog.globals[0]?).map (·.type) = some 85 := by kernel_rfl
theorem orders_type : (Tryz.prog.globals[1]?).map (·.type) = some 129 := by kernel_rfl
theorem initial_data : Rows.laid_trestle_blake_initial (H := Unit) = Lib.tabData .u32 (M.iv.map fun (n : Nat) => (n : Int)) := by
  unfold Rows.laid_trestle_blake_initial Lib.tabData
  simp [M.iv]
theorem orders_data : Rows.laid_trestle_blake_orders (H := Unit) = .agg (M.orders.map fun r => Lib.tabData .u8 (r.map fun (n : Nat) => (n : Int))) := by
  unfold Rows.laid_trestle_blake_orders Lib.tabData
  simp [M.orders]
theorem trod_len {H : Type} {enc : TypeId × Value → H} {P : Program} {w : World} {base : Nat} {sp : Nat → Bool} {held : Bool} {fuel : Nat} {t e : TypeId} {n : Nat} {cs : List Value} {d : DataW H} {p : List MemPlace}
    (ht : P.underlying t = some (.array n e)) (h : DataW.trod enc P w base sp held fuel t cs = some (d, p)) : cs.length = P.cellsOf t := by
  cases fuel with
  | zero => simp [DataW.trod] at h
  | succ fuel =>
    simp only [DataW.trod, ht] at h
    split at h
    · rename_i hl
      first | exact hl | simpa using hl
    · cases h
theorem cells_u8 : Tryz.prog.cellsOf 128 = 16 := by kernel_rfl
theorem cells_160 : Tryz.prog.cellsOf 129 = 160 := by kernel_rfl
theorem orders_cells {W : World} {fuel : Nat} {cs : List Value} {p : List MemPlace}
    (h : DataW.trod (fun _ => ()) Tryz.prog W 0 (fun _ => true) false fuel 129 cs = some (.agg (M.orders.map fun r => Lib.tabData .u8 (r.map fun (n : Nat) => (n : Int))), p)) : cs = (c8 M.orders.flatten).toList := by
  have hl := trod_len Tryz.underlying129 h
  rw [cells_160] at hl
  refine chunk_ext _ _ hl (by rw [Array.length_toList, c8_size]; rfl) ?_
  intro i hi
  obtain ⟨f', d, q, hd, ht⟩ := Lib.array_elem Tryz.underlying129 h i hi
  rw [cells_u8] at ht
  have hdi : d = Lib.tabData .u8 ((M.orders.getD i []).map fun (n : Nat) => (n : Int)) := by
    have hlt : i < M.orders.length := hi
    rw [List.getElem?_map, List.getElem?_eq_getElem hlt] at hd
    rw [List.getD_eq_getElem?_getD, List.getElem?_eq_getElem hlt]
    exact (Option.some.inj hd).symm
  rw [hdi] at ht
  rw [Lib.cells_of_tab Tryz.underlying128 Tryz.underlying5 (by kernel_rfl) (by kernel_rfl) ht, c8, ← List.map_drop, ← List.map_take, rows_list i hi, List.map_map]
  rfl
theorem tabs_of {l : List (String × DataW Unit)} {W : World} (h : laidMet Tryz.prog l W) (h1 : ("trestle/blake.initial", Rows.laid_trestle_blake_initial) ∈ l) (h2 : ("trestle/blake.orders", Rows.laid_trestle_blake_orders) ∈ l) : Tabs W := by
  obtain ⟨ps, hl, _⟩ := h
  constructor
  · obtain ⟨g, t, cs, fuel, p, hg, ht, hv, hd⟩ := laid_mem hl h1
    obtain rfl := Option.some.inj (num_initial.symm.trans hg)
    obtain rfl := Option.some.inj (initial_type.symm.trans ht)
    rw [initial_data] at hd
    have hc := Lib.cells_of_tab Tryz.underlying85 Tryz.underlying84 (by kernel_rfl) (by kernel_rfl) hd
    rw [hv, c32, show cs = cs.toList.toArray from Array.toArray_toList.symm, hc, List.map_map]
    rfl
  · obtain ⟨g, t, cs, fuel, p, hg, ht, hv, hd⟩ := laid_mem hl h2
    obtain rfl := Option.some.inj (num_orders.symm.trans hg)
    obtain rfl := Option.some.inj (orders_type.symm.trans ht)
    rw [orders_data] at hd
    rw [hv, show cs = cs.toList.toArray from Array.toArray_toList.symm, orders_cells hd]
end Go.Proofs.YtabcobadglgfkaaGreatDoor

/- The document's mixing of four numbers. -/
namespace Go.Proofs.YtabcobadglgfkaaGreatDoor
open Go.RowKit

def l64 (v : List Nat) : List Value := v.map fun (n : Nat) => Value.int .i64 (n : Int)
theorem l64_len (v : List Nat) : (l64 v).length = v.length := by simp [l64]
theorem l64_at {v : List Nat} {i : Nat} (h : i < v.length) : (l64 v)[i]? = some (.int .i64 (M.gt v i : Nat)) := by
  simp [l64, M.gt, List.getD_eq_getElem?_getD, h]
theorem l64_set (v : List Nat) (i x : Nat) : (l64 v).set i (.int .i64 (x : Int)) = l64 (v.set i x) := by
  simp [l64, List.map_set]
section
variable {w : World} {b : Nat} {v : List Nat} {T : TypeId}
theorem Row.l64_set (h : Row w b (l64 v) T) {i : Nat} (hi : i < v.length) (x : Nat) : Row (w.setCell ⟨b, i, none⟩ (.int .i64 (x : Int))) b (l64 (v.set i x)) T := by
  have := h.set (i := i) (by rw [l64_len]; exact hi) (.int .i64 (x : Int))
  rwa [Proofs.YtabcobadglgfkaaGreatDoor.l64_set] at this
theorem rstepA (h : Row w b (l64 v) T) (i j x : Nat) (hi : i < v.length) : ∃ w1, (w.setCell ⟨b, i, none⟩ (.int .i64 (((M.gt v i : Int) + (M.gt v j : Int) + (x : Int)) % 4294967296))).drew = w1 ∧ Row w1 b (l64 (M.mixA v i j x)) T ∧ Keep (· = b) w w1 := by
  refine ⟨_, rfl, ?_, ((Keep.refl _ w).set1 i _).drew⟩
  have e : (((M.gt v i : Int) + (M.gt v j : Int) + (x : Int)) % 4294967296) = (((M.gt v i + M.gt v j + x) % 4294967296 : Nat) : Int) := by omega
  rw [e]
  exact h.l64_set hi _
theorem rstepC (h : Row w b (l64 v) T) (i j : Nat) (hi : i < v.length) : ∃ w1, (w.setCell ⟨b, i, none⟩ (.int .i64 (((M.gt v i : Int) + (M.gt v j : Int)) % 4294967296))).drew = w1 ∧ Row w1 b (l64 (M.mixC v i j)) T ∧ Keep (· = b) w w1 := by
  refine ⟨_, rfl, ?_, ((Keep.refl _ w).set1 i _).drew⟩
  have e : (((M.gt v i : Int) + (M.gt v j : Int)) % 4294967296) = (((M.gt v i + M.gt v j) % 4294967296 : Nat) : Int) := by omega
  rw [e]
  exact h.l64_set hi _
theorem rstepR (h : Row w b (l64 v) T) (i j n : Nat) (hi : i < v.length) : Row (w.setCell ⟨b, i, none⟩ (.int .i64 ((M.rot (M.gt v i ^^^ M.gt v j) n : Nat) : Int))) b (l64 (M.mixR v i j n)) T ∧ Keep (· = b) w (w.setCell ⟨b, i, none⟩ (.int .i64 ((M.rot (M.gt v i ^^^ M.gt v j) n : Nat) : Int))) :=
  ⟨h.l64_set hi _, (Keep.refl _ w).set1 i _⟩
end

set_option maxHeartbeats 4000000 in
set_option maxRecDepth 100000 in
theorem rmix_any (bv cap : Nat) (v : List Nat) (hl : v.length = 16) (hs : M.Small v) (a b c d x y : Nat) (ha : a < 16) (hb : b < 16) (hc : c < 16) (hd : d < 16) (hx : x < 4294967296) (hy : y < 4294967296) (w : World) (h : Row w bv (l64 v) 3) :
    Calls Tryz.prog 107 #[.slice (some ⟨bv, 0, none⟩) 16 cap, .int .i64 a, .int .i64 b, .int .i64 c, .int .i64 d, .int .i64 x, .int .i64 y] w fun e w' =>
      e = .returned (.tuple #[]) ∧ Row w' bv (l64 (M.mix v a b c d x y)) 3 ∧ Keep (· = bv) w w' := by
  have ia : (a : Int) < 16 := by omega
  have ib : (b : Int) < 16 := by omega
  have ic : (c : Int) < 16 := by omega
  have id : (d : Int) < 16 := by omega
  have ja : (0 : Int) ≤ (a : Int) := by omega
  have jb : (0 : Int) ≤ (b : Int) := by omega
  have jc : (0 : Int) ≤ (c : Int) := by omega
  have jd : (0 : Int) ≤ (d : Int) := by omega
  have HL := Lib.hid hl
  have HS := Lib.hid hs
  clear hl hs
  have H := Lib.hid h
  have HK := Lib.hid (Keep.refl (· = bv) w)
  clear h
  go_enter Tryz.func107, Tryz.ntmps107
  have hci := H.out.cellN a (l64_at (by rw [HL.out]; exact ha))
  have hcj := H.out.cellN b (l64_at (by rw [HL.out]; exact hb))
  have hfi := H.out.free a
  have gi : M.gt v a < 4294967296 := M.gt_lt HS.out a
  have gj : M.gt v b < 4294967296 := M.gt_lt HS.out b
  have e2 : IntKind.i64.wrap ((M.gt v a : Int) + (M.gt v b : Int)) = (M.gt v a : Int) + (M.gt v b : Int) := IntWalk.i64_in _ (by omega)
  have e3 : IntKind.i64.wrap ((M.gt v a : Int) + (M.gt v b : Int) + (x : Int)) = (M.gt v a : Int) + (M.gt v b : Int) + (x : Int) := IntWalk.i64_in _ (by omega)
  have e4 : ((M.gt v a : Int) + (M.gt v b : Int) + (x : Int)).tmod 4294967296 = ((M.gt v a : Int) + (M.gt v b : Int) + (x : Int)) % 4294967296 := Int.tmod_eq_emod_of_nonneg (by omega)
  go_wp2
  go_still_tail 15, (by kernel_rfl)
  change wpList _ _ _ _ _ w.drew
  go_wp2
  obtain ⟨w1, e1, h1, k1⟩ := rstepA H.out a b x (by rw [HL.out]; exact ha)
  rw [e1]
  have HS1 := Lib.hid (M.small_mixA HS.out _ _ _ : M.Small (M.mixA v a b x))
  have HL1 := Lib.hid ((M.len_mixA .. : (M.mixA v a b x).length = _).trans HL.out)
  have H1 := Lib.hid h1
  have HK1 := Lib.hid (HK.out.trans k1)
  clear e1 h1 k1 hci hcj hfi e2 e3 e4 HS HL H HK gi gj
  have HS := HS1; have HL := HL1; have H := H1; have HK := HK1
  clear HS1 HL1 H1 HK1
  obtain ⟨v1, he⟩ : ∃ z : List Nat, M.mixA v a b x = z := ⟨_, rfl⟩
  rw [he] at HS HL H
  have HE1 := Lib.hid he
  clear he
  have hci := H.out.cellN d (l64_at (by rw [HL.out]; exact hd))
  have hcj := H.out.cellN a (l64_at (by rw [HL.out]; exact ha))
  have hfi := H.out.free d
  have gi : M.gt v1 d < 4294967296 := M.gt_lt HS.out d
  have gj : M.gt v1 a < 4294967296 := M.gt_lt HS.out a
  have hxo := i64_xor_nat (M.gt v1 d) (M.gt v1 a) (by omega) (by omega)
  go_wp2
  have G := Lib.hid (fun w1 => turned_any (M.gt v1 d ^^^ M.gt v1 a) (M.xor_lt gi gj) 16 16 (by decide) w1)
  apply cut_here
  · intro key
    go_region_with ((with_reducible refine (G.out _).mono ?_); rintro e wq ⟨rfl, nq, rfl⟩)
    · revert nq; exact key.out
    · revert nq; exact key.out
  intro nq
  clear G
  have h0 := (H.out.drewN (1 + nq))
  have hst := rstepR h0 d a 16 (by rw [HL.out]; exact hd)
  have h1 := hst.1
  have k1 := (Keep.drewN (Keep.refl (· = bv) w1) (1 + nq)).trans hst.2
  generalize ((w1.drewN (1 + nq)).setCell ⟨bv, d, none⟩ _) = w2 at *
  clear hst h0
  have HS1 := Lib.hid (M.small_mixR HS.out _ _ _ : M.Small (M.mixR v1 d a 16))
  have HL1 := Lib.hid ((M.len_mixR .. : (M.mixR v1 d a 16).length = _).trans HL.out)
  have H1 := Lib.hid h1
  have HK1 := Lib.hid (HK.out.trans k1)
  clear h1 k1 hci hcj hfi hxo HS HL H HK gi gj
  have HS := HS1; have HL := HL1; have H := H1; have HK := HK1
  clear HS1 HL1 H1 HK1
  obtain ⟨v2, he⟩ : ∃ z : List Nat, M.mixR v1 d a 16 = z := ⟨_, rfl⟩
  rw [he] at HS HL H
  have HE2 := Lib.hid he
  clear he
  have hci := H.out.cellN c (l64_at (by rw [HL.out]; exact hc))
  have hcj := H.out.cellN d (l64_at (by rw [HL.out]; exact hd))
  have hfi := H.out.free c
  have gi : M.gt v2 c < 4294967296 := M.gt_lt HS.out c
  have gj : M.gt v2 d < 4294967296 := M.gt_lt HS.out d
  have e2 : IntKind.i64.wrap ((M.gt v2 c : Int) + (M.gt v2 d : Int)) = (M.gt v2 c : Int) + (M.gt v2 d : Int) := IntWalk.i64_in _ (by omega)
  have e3 : True := trivial
  have e4 : ((M.gt v2 c : Int) + (M.gt v2 d : Int)).tmod 4294967296 = ((M.gt v2 c : Int) + (M.gt v2 d : Int)) % 4294967296 := Int.tmod_eq_emod_of_nonneg (by omega)
  go_wp2
  go_still_tail 13, (by kernel_rfl)
  change wpList _ _ _ _ _ w2.drew
  go_wp2
  obtain ⟨w3, e1, h1, k1⟩ := rstepC H.out c d (by rw [HL.out]; exact hc)
  rw [e1]
  have HS1 := Lib.hid (M.small_mixC HS.out _ _ : M.Small (M.mixC v2 c d))
  have HL1 := Lib.hid ((M.len_mixC .. : (M.mixC v2 c d).length = _).trans HL.out)
  have H1 := Lib.hid h1
  have HK1 := Lib.hid (HK.out.trans k1)
  clear e1 h1 k1 hci hcj hfi e2 e3 e4 HS HL H HK gi gj
  have HS := HS1; have HL := HL1; have H := H1; have HK := HK1
  clear HS1 HL1 H1 HK1
  obtain ⟨v3, he⟩ : ∃ z : List Nat, M.mixC v2 c d = z := ⟨_, rfl⟩
  rw [he] at HS HL H
  have HE3 := Lib.hid he
  clear he
  have hci := H.out.cellN b (l64_at (by rw [HL.out]; exact hb))
  have hcj := H.out.cellN c (l64_at (by rw [HL.out]; exact hc))
  have hfi := H.out.free b
  have gi : M.gt v3 b < 4294967296 := M.gt_lt HS.out b
  have gj : M.gt v3 c < 4294967296 := M.gt_lt HS.out c
  have hxo := i64_xor_nat (M.gt v3 b) (M.gt v3 c) (by omega) (by omega)
  go_wp2
  have G := Lib.hid (fun w1 => turned_any (M.gt v3 b ^^^ M.gt v3 c) (M.xor_lt gi gj) 12 12 (by decide) w1)
  apply cut_here
  · intro key
    go_region_with ((with_reducible refine (G.out _).mono ?_); rintro e wq ⟨rfl, nq, rfl⟩)
    · revert nq; exact key.out
    · revert nq; exact key.out
  intro nq
  clear G
  have h0 := (H.out.drewN (1 + nq))
  have hst := rstepR h0 b c 12 (by rw [HL.out]; exact hb)
  have h1 := hst.1
  have k1 := (Keep.drewN (Keep.refl (· = bv) w3) (1 + nq)).trans hst.2
  generalize ((w3.drewN (1 + nq)).setCell ⟨bv, b, none⟩ _) = w4 at *
  clear hst h0
  have HS1 := Lib.hid (M.small_mixR HS.out _ _ _ : M.Small (M.mixR v3 b c 12))
  have HL1 := Lib.hid ((M.len_mixR .. : (M.mixR v3 b c 12).length = _).trans HL.out)
  have H1 := Lib.hid h1
  have HK1 := Lib.hid (HK.out.trans k1)
  clear h1 k1 hci hcj hfi hxo HS HL H HK gi gj
  have HS := HS1; have HL := HL1; have H := H1; have HK := HK1
  clear HS1 HL1 H1 HK1
  obtain ⟨v4, he⟩ : ∃ z : List Nat, M.mixR v3 b c 12 = z := ⟨_, rfl⟩
  rw [he] at HS HL H
  have HE4 := Lib.hid he
  clear he
  have hci := H.out.cellN a (l64_at (by rw [HL.out]; exact ha))
  have hcj := H.out.cellN b (l64_at (by rw [HL.out]; exact hb))
  have hfi := H.out.free a
  have gi : M.gt v4 a < 4294967296 := M.gt_lt HS.out a
  have gj : M.gt v4 b < 4294967296 := M.gt_lt HS.out b
  have e2 : IntKind.i64.wrap ((M.gt v4 a : Int) + (M.gt v4 b : Int)) = (M.gt v4 a : Int) + (M.gt v4 b : Int) := IntWalk.i64_in _ (by omega)
  have e3 : IntKind.i64.wrap ((M.gt v4 a : Int) + (M.gt v4 b : Int) + (y : Int)) = (M.gt v4 a : Int) + (M.gt v4 b : Int) + (y : Int) := IntWalk.i64_in _ (by omega)
  have e4 : ((M.gt v4 a : Int) + (M.gt v4 b : Int) + (y : Int)).tmod 4294967296 = ((M.gt v4 a : Int) + (M.gt v4 b : Int) + (y : Int)) % 4294967296 := Int.tmod_eq_emod_of_nonneg (by omega)
  go_wp2
  go_still_tail 15, (by kernel_rfl)
  change wpList _ _ _ _ _ w4.drew
  go_wp2
  obtain ⟨w5, e1, h1, k1⟩ := rstepA H.out a b y (by rw [HL.out]; exact ha)
  rw [e1]
  have HS1 := Lib.hid (M.small_mixA HS.out _ _ _ : M.Small (M.mixA v4 a b y))
  have HL1 := Lib.hid ((M.len_mixA .. : (M.mixA v4 a b y).length = _).trans HL.out)
  have H1 := Lib.hid h1
  have HK1 := Lib.hid (HK.out.trans k1)
  clear e1 h1 k1 hci hcj hfi e2 e3 e4 HS HL H HK gi gj
  have HS := HS1; have HL := HL1; have H := H1; have HK := HK1
  clear HS1 HL1 H1 HK1
  obtain ⟨v5, he⟩ : ∃ z : List Nat, M.mixA v4 a b y = z := ⟨_, rfl⟩
  rw [he] at HS HL H
  have HE5 := Lib.hid he
  clear he
  have hci := H.out.cellN d (l64_at (by rw [HL.out]; exact hd))
  have hcj := H.out.cellN a (l64_at (by rw [HL.out]; exact ha))
  have hfi := H.out.free d
  have gi : M.gt v5 d < 4294967296 := M.gt_lt HS.out d
  have gj : M.gt v5 a < 4294967296 := M.gt_lt HS.out a
  have hxo := i64_xor_nat (M.gt v5 d) (M.gt v5 a) (by omega) (by omega)
  go_wp2
  have G := Lib.hid (fun w1 => turned_any (M.gt v5 d ^^^ M.gt v5 a) (M.xor_lt gi gj) 8 8 (by decide) w1)
  apply cut_here
  · intro key
    go_region_with ((with_reducible refine (G.out _).mono ?_); rintro e wq ⟨rfl, nq, rfl⟩)
    · revert nq; exact key.out
    · revert nq; exact key.out
  intro nq
  clear G
  have h0 := (H.out.drewN (1 + nq))
  have hst := rstepR h0 d a 8 (by rw [HL.out]; exact hd)
  have h1 := hst.1
  have k1 := (Keep.drewN (Keep.refl (· = bv) w5) (1 + nq)).trans hst.2
  generalize ((w5.drewN (1 + nq)).setCell ⟨bv, d, none⟩ _) = w6 at *
  clear hst h0
  have HS1 := Lib.hid (M.small_mixR HS.out _ _ _ : M.Small (M.mixR v5 d a 8))
  have HL1 := Lib.hid ((M.len_mixR .. : (M.mixR v5 d a 8).length = _).trans HL.out)
  have H1 := Lib.hid h1
  have HK1 := Lib.hid (HK.out.trans k1)
  clear h1 k1 hci hcj hfi hxo HS HL H HK gi gj
  have HS := HS1; have HL := HL1; have H := H1; have HK := HK1
  clear HS1 HL1 H1 HK1
  obtain ⟨v6, he⟩ : ∃ z : List Nat, M.mixR v5 d a 8 = z := ⟨_, rfl⟩
  rw [he] at HS HL H
  have HE6 := Lib.hid he
  clear he
  have hci := H.out.cellN c (l64_at (by rw [HL.out]; exact hc))
  have hcj := H.out.cellN d (l64_at (by rw [HL.out]; exact hd))
  have hfi := H.out.free c
  have gi : M.gt v6 c < 4294967296 := M.gt_lt HS.out c
  have gj : M.gt v6 d < 4294967296 := M.gt_lt HS.out d
  have e2 : IntKind.i64.wrap ((M.gt v6 c : Int) + (M.gt v6 d : Int)) = (M.gt v6 c : Int) + (M.gt v6 d : Int) := IntWalk.i64_in _ (by omega)
  have e3 : True := trivial
  have e4 : ((M.gt v6 c : Int) + (M.gt v6 d : Int)).tmod 4294967296 = ((M.gt v6 c : Int) + (M.gt v6 d : Int)) % 4294967296 := Int.tmod_eq_emod_of_nonneg (by omega)
  go_wp2
  go_still_tail 13, (by kernel_rfl)
  change wpList _ _ _ _ _ w6.drew
  go_wp2
  obtain ⟨w7, e1, h1, k1⟩ := rstepC H.out c d (by rw [HL.out]; exact hc)
  rw [e1]
  have HS1 := Lib.hid (M.small_mixC HS.out _ _ : M.Small (M.mixC v6 c d))
  have HL1 := Lib.hid ((M.len_mixC .. : (M.mixC v6 c d).length = _).trans HL.out)
  have H1 := Lib.hid h1
  have HK1 := Lib.hid (HK.out.trans k1)
  clear e1 h1 k1 hci hcj hfi e2 e3 e4 HS HL H HK gi gj
  have HS := HS1; have HL := HL1; have H := H1; have HK := HK1
  clear HS1 HL1 H1 HK1
  obtain ⟨v7, he⟩ : ∃ z : List Nat, M.mixC v6 c d = z := ⟨_, rfl⟩
  rw [he] at HS HL H
  have HE7 := Lib.hid he
  clear he
  have hci := H.out.cellN b (l64_at (by rw [HL.out]; exact hb))
  have hcj := H.out.cellN c (l64_at (by rw [HL.out]; exact hc))
  have hfi := H.out.free b
  have gi : M.gt v7 b < 4294967296 := M.gt_lt HS.out b
  have gj : M.gt v7 c < 4294967296 := M.gt_lt HS.out c
  have hxo := i64_xor_nat (M.gt v7 b) (M.gt v7 c) (by omega) (by omega)
  go_wp2
  have G := Lib.hid (fun w1 => turned_any (M.gt v7 b ^^^ M.gt v7 c) (M.xor_lt gi gj) 7 7 (by decide) w1)
  apply cut_here
  · intro key
    go_region_with ((with_reducible refine (G.out _).mono ?_); rintro e wq ⟨rfl, nq, rfl⟩)
    · revert nq; exact key.out
    · revert nq; exact key.out
  intro nq
  clear G
  have h0 := (H.out.drewN (1 + nq))
  have hst := rstepR h0 b c 7 (by rw [HL.out]; exact hb)
  have h1 := hst.1
  have k1 := (Keep.drewN (Keep.refl (· = bv) w7) (1 + nq)).trans hst.2
  generalize ((w7.drewN (1 + nq)).setCell ⟨bv, b, none⟩ _) = w8 at *
  clear hst h0
  have HS1 := Lib.hid (M.small_mixR HS.out _ _ _ : M.Small (M.mixR v7 b c 7))
  have HL1 := Lib.hid ((M.len_mixR .. : (M.mixR v7 b c 7).length = _).trans HL.out)
  have H1 := Lib.hid h1
  have HK1 := Lib.hid (HK.out.trans k1)
  clear h1 k1 hci hcj hfi hxo HS HL H HK gi gj
  have HS := HS1; have HL := HL1; have H := H1; have HK := HK1
  clear HS1 HL1 H1 HK1
  obtain ⟨v8, he⟩ : ∃ z : List Nat, M.mixR v7 b c 7 = z := ⟨_, rfl⟩
  rw [he] at HS HL H
  have HE8 := Lib.hid he
  clear he
  have hm : M.mix v a b c d x y = v8 := by
    unfold M.mix M.mixH
    rw [HE1.out, HE2.out, HE3.out, HE4.out, HE5.out, HE6.out, HE7.out, HE8.out]
  go_end0
  exact ⟨rfl, by rw [hm]; exact H.out, HK.out⟩
end Go.Proofs.YtabcobadglgfkaaGreatDoor

/- The document's bytes in words; what the chapter's examples say. -/
namespace Go.Proofs.YtabcobadglgfkaaGreatDoor
open Go.RowKit

end Go.Proofs.YtabcobadglgfkaaGreatDoor

/- The document's constants and rows. -/
namespace Go.Proofs.YtabcobadglgfkaaGreatDoor
open Go.RowKit

theorem allocs_at : ∀ (l : List Obj) (w : World) (k : Nat) (o : Obj), l[k]? = some o → (l.foldl World.alloc w).heap[w.heap.size + k]? = some o
  | [], _, _, _, h => by simp at h
  | x :: l, w, 0, o, h => by
      have hx : x = o := by simpa using h
      subst hx
      have : ∀ (l : List Obj) (v : World), Old v (l.foldl World.alloc v) := fun l => by
        induction l with
        | nil => intro v; exact Below.refl _ _
        | cons y r ih => intro v; exact Old.trans (Old.alloc v y) (ih _)
      have hb := (this l (w.alloc x)).block w.heap.size (by simp)
      exact hb.trans (heap_alloc_last w x)
  | x :: l, w, k + 1, o, h => by
      have := allocs_at l (w.alloc x) k o (by simpa using h)
      rw [show (w.alloc x).heap.size = w.heap.size + 1 from by simp] at this
      rw [show w.heap.size + (k + 1) = w.heap.size + 1 + k from by omega]
      exact this
theorem allocs_old : ∀ (l : List Obj) (w : World), Old w (l.foldl World.alloc w)
  | [], _ => Below.refl _ _
  | x :: l, w => Old.trans (Old.alloc w x) (allocs_old l _)

def ivObj : Obj := .cells (l64 M.iv).toArray 3
theorem constants_any (w : World) :
    Calls Tryz.prog 75 #[] w fun e w' => e = .returned (.slice (some ⟨w.heap.size, 0, none⟩) 8 8) ∧ Row w' w.heap.size (l64 M.iv) 3 ∧ Old w w' ∧ w'.heap.size = w.heap.size + 1 := by
  go_enter Tryz.func75, Tryz.ntmps75
  go_wp2
  go_ret
  exact ⟨rfl, Row.of_blk (Blk.new w (l64 M.iv).toArray 3), Old.alloc w _, by simp⟩

def sl16 (g : Nat) : Value := .slice (some ⟨g, 0, none⟩) 16 16
/-- The list of rows that the document lays, in block g: each in a block of its own. -/
def RowsIn (B : Nat) (w : World) (g : Nat) : Prop := ∀ k < 10, ∃ gk, B ≤ gk ∧ w.cell? ⟨g, k, none⟩ = some (sl16 gk) ∧ Row w gk (l64 (M.orders.getD k [])) 3
set_option maxHeartbeats 2000000 in
set_option maxRecDepth 100000 in
theorem rows_any (w : World) :
    Calls Tryz.prog 106 #[] w fun e w' => ∃ g, e = .returned (.slice (some ⟨g, 0, none⟩) 10 10) ∧ w.heap.size ≤ g ∧ RowsIn w.heap.size w' g ∧ Old w w' := by
  go_enter Tryz.func106, Tryz.ntmps106
  go_wp2
  go_ret
  let objs : List Obj := (M.orders.map fun r => Obj.cells (l64 r).toArray 3) ++ [Obj.cells ((List.range 10).map fun k => sl16 (w.heap.size + k)).toArray 101]
  have hE : ∀ w', w' = objs.foldl World.alloc w → ∃ g, (w.heap.size + 10 = g) ∧ w.heap.size ≤ g ∧ RowsIn w.heap.size w' g ∧ Old w w' := by
    rintro w' rfl
    refine ⟨_, rfl, by omega, ?_, allocs_old objs w⟩
    intro k hk
    refine ⟨w.heap.size + k, by omega, ?_, ?_⟩
    · have h10 := allocs_at objs w 10 (Obj.cells ((List.range 10).map fun k => sl16 (w.heap.size + k)).toArray 101) rfl
      refine (show Blk (objs.foldl World.alloc w) (w.heap.size + 10) _ _ from h10).cellN k ?_
      simp [hk]
    · have hk' : k < M.orders.length := hk
      have hr := allocs_at objs w k (Obj.cells (l64 (M.orders.getD k [])).toArray 3) (by
        rw [List.getElem?_append_left (by simpa using hk'), List.getElem?_map, List.getElem?_eq_getElem hk', List.getD_eq_getElem?_getD, List.getElem?_eq_getElem hk']
        rfl)
      exact Row.of_blk hr
  obtain ⟨g, hg, h1, h2, h3⟩ := hE _ rfl
  exact ⟨g, by rw [← hg]; rfl, h1, h2, h3⟩
end Go.Proofs.YtabcobadglgfkaaGreatDoor
