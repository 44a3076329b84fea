/- The two tables of package blake, out of the listed variables. -/
import Derived.Test.YtgodccgbhpannaaDoorLaidM
import Derived.Test.YtgodccgbhpannaaDoorBlakeD
import Derived.Lib.LaidU8
namespace Go.Proofs.YtgodccgbhpannaaDoor
open Go.RowKit

theorem chunk_ext {α : Type} (a b : List α) (ha : a.length = 160) (hb : b.length = 160) (h : ∀ i < 10, (a.drop (i * 16)).take 16 = (b.drop (i * 16)).take 16) : a = b := by
  apply List.ext_getElem?
  intro j
  by_cases hj : j < 160
  · have hi : j / 16 < 10 := by omega
    have e := congrArg (fun l => l[j % 16]?) (h (j / 16) hi)
    have hm : j % 16 < 16 := Nat.mod_lt _ (by decide)
    simp only [List.getElem?_take, hm, if_true, List.getElem?_drop] at e
    rw [show j / 16 * 16 + j % 16 = j from by omega] at e
    exact e
  · rw [List.getElem?_eq_none (by omega), List.getElem?_eq_none (by omega)]
theorem initial_type : (Tryd.prog.globals[0]?).map (·.type) = some 29 := by kernel_rfl
theorem orders_type : (Tryd.prog.globals[1]?).map (·.type) = some 41 := by kernel_rfl
theorem initial_data : Rows.laid_trestle_blake_initial (H := Unit) = Lib.tabData .u32 (M.iv.map fun (n : Nat) => (n : Int)) := by
  unfold Rows.laid_trestle_blake_initial Lib.tabData
  simp [M.iv]
theorem orders_data : Rows.laid_trestle_blake_orders (H := Unit) = .agg (M.orders.map fun r => Lib.tabData .u8 (r.map fun (n : Nat) => (n : Int))) := by
  unfold Rows.laid_trestle_blake_orders Lib.tabData
  simp [M.orders]
theorem trod_len {H : Type} {enc : TypeId × Value → H} {P : Program} {w : World} {base : Nat} {sp : Nat → Bool} {held : Bool} {fuel : Nat} {t e : TypeId} {n : Nat} {cs : List Value} {d : DataW H} {p : List MemPlace}
    (ht : P.underlying t = some (.array n e)) (h : DataW.trod enc P w base sp held fuel t cs = some (d, p)) : cs.length = P.cellsOf t := by
  cases fuel with
  | zero => simp [DataW.trod] at h
  | succ fuel =>
    simp only [DataW.trod, ht] at h
    split at h
    · rename_i hl
      first | exact hl | simpa using hl
    · cases h
theorem cells_u8 : Tryd.prog.cellsOf 40 = 16 := by kernel_rfl
theorem cells_160 : Tryd.prog.cellsOf 41 = 160 := by kernel_rfl
theorem orders_cells {W : World} {fuel : Nat} {cs : List Value} {p : List MemPlace}
    (h : DataW.trod (fun _ => ()) Tryd.prog W 0 (fun _ => true) false fuel 41 cs = some (.agg (M.orders.map fun r => Lib.tabData .u8 (r.map fun (n : Nat) => (n : Int))), p)) : cs = (c8 M.orders.flatten).toList := by
  have hl := trod_len Tryd.underlying41 h
  rw [cells_160] at hl
  refine chunk_ext _ _ hl (by rw [Array.length_toList, c8_size]; rfl) ?_
  intro i hi
  obtain ⟨f', d, q, hd, ht⟩ := Lib.array_elem Tryd.underlying41 h i hi
  rw [cells_u8] at ht
  have hdi : d = Lib.tabData .u8 ((M.orders.getD i []).map fun (n : Nat) => (n : Int)) := by
    have hlt : i < M.orders.length := hi
    rw [List.getElem?_map, List.getElem?_eq_getElem hlt] at hd
    rw [List.getD_eq_getElem?_getD, List.getElem?_eq_getElem hlt]
    exact (Option.some.inj hd).symm
  rw [hdi] at ht
  rw [Lib.cells_of_tab Tryd.underlying40 Tryd.underlying5 (by kernel_rfl) (by kernel_rfl) ht, c8, ← List.map_drop, ← List.map_take, rows_list i hi, List.map_map]
  rfl
theorem tabs_of {l : List (String × DataW Unit)} {W : World} (h : laidMet Tryd.prog l W) (h1 : ("trestle/blake.initial", Rows.laid_trestle_blake_initial) ∈ l) (h2 : ("trestle/blake.orders", Rows.laid_trestle_blake_orders) ∈ l) : Tabs W := by
  obtain ⟨ps, hl, _⟩ := h
  constructor
  · obtain ⟨g, t, cs, fuel, p, hg, ht, hv, hd⟩ := laid_mem hl h1
    obtain rfl := Option.some.inj (num_initial.symm.trans hg)
    obtain rfl := Option.some.inj (initial_type.symm.trans ht)
    rw [initial_data] at hd
    have hc := Lib.cells_of_tab Tryd.underlying29 Tryd.underlying28 (by kernel_rfl) (by kernel_rfl) hd
    rw [hv, c32, show cs = cs.toList.toArray from Array.toArray_toList.symm, hc, List.map_map]
    rfl
  · obtain ⟨g, t, cs, fuel, p, hg, ht, hv, hd⟩ := laid_mem hl h2
    obtain rfl := Option.some.inj (num_orders.symm.trans hg)
    obtain rfl := Option.some.inj (orders_type.symm.trans ht)
    rw [orders_data] at hd
    rw [hv, show cs = cs.toList.toArray from Array.toArray_toList.symm, orders_cells hd]
end Go.Proofs.YtgodccgbhpannaaDoor
