/- The law's own words: are files few; does the chapter's example hold. -/
import Derived.Test.YtcmbmbdjdkldoaaDoorPathsX
import Derived.Test.YtcmbmbdjdkldoaaDoorPathsY
namespace Go.Proofs.YtcmbmbdjdkldoaaDoor
open Go.RowKit

def M.few (fs : List M.Fi) : Bool := decide (fs.length ≤ 100) && fs.all (fun f => decide (f.1.length ≤ 500) && decide (f.2.length ≤ 5000))
theorem few_alls {fs : List M.Fi} (h : M.few fs = true) : fs.length ≤ 100 ∧ (∀ f ∈ fs, f.1.length ≤ 500 ∧ f.2.length ≤ 5000) ∧ Alls fs := by
  unfold M.few at h
  rw [Bool.and_eq_true, decide_eq_true_eq] at h
  have h2 : ∀ f ∈ fs, f.1.length ≤ 500 ∧ f.2.length ≤ 5000 := fun f hf => by
    have := List.all_eq_true.1 h.2 f hf
    simpa using this
  exact ⟨h.1, h2, by omega, fun f hf => ⟨by have := h2 f hf; omega, by have := h2 f hf; omega⟩⟩

set_option maxHeartbeats 1000000 in
set_option maxRecDepth 100000 in
theorem few_any (v : Value) (fs : List M.Fi) (w : World) (h : Fl w v fs) (hl : fs.length ≤ maxLen) :
    Calls Tryd.prog 22 #[v] w fun e w' => e = .returned (.bool (M.few fs)) ∧ w = w' := by
  unfold maxLen at hl
  have H := Lib.hid h
  obtain ⟨p, cap, rfl⟩ := h.len
  clear h
  by_cases hbig : 100 < fs.length
  · go_enter Tryd.func22, Tryd.ntmps22
    go_wp2
    go_ret
    exact ⟨ret_bool (by unfold M.few; rw [decide_eq_false (by omega), Bool.false_and]), rfl⟩
  · go_enter Tryd.func22, Tryd.ntmps22
    go_wp2
    go_loopw [3] (fun i wr => ∃ k : Nat, k ≤ fs.length ∧ i = .int .i64 k ∧ wr = w ∧ Hid (∀ j (hj : j < fs.length), j < k → fs[j].1.length ≤ 500 ∧ fs[j].2.length ≤ 5000)) (fun i _ => fs.length - (intOf i).toNat)
    case atStart => exact ⟨0, Nat.zero_le _, rfl, rfl, Lib.hid (fun j _ h => absurd h (Nat.not_lt_zero _))⟩
    case round =>
      obtain ⟨k, hk, rfl, rfl, hall⟩ := hrel
      by_cases hlt : k < fs.length
      · obtain ⟨b, off, rfl, hb, hc⟩ := H.out.at (by intro h; rw [h] at hlt; exact absurd hlt (Nat.not_lt_zero _))
        obtain ⟨hc0, hc1⟩ := hc k hlt
        have HNO := Lib.hid (show (500 < fs[k].1.length ∨ 5000 < fs[k].2.length) → M.few fs = false from fun h => by
          cases hf : M.few fs with
          | false => rfl
          | true =>
            have := (few_alls hf).2.1 _ (List.getElem_mem hlt)
            omega)
        have HYES := Lib.hid (show fs[k].1.length ≤ 500 ∧ fs[k].2.length ≤ 5000 → ∀ j (hj : j < fs.length), j < k + 1 → fs[j].1.length ≤ 500 ∧ fs[j].2.length ≤ 5000 from fun h j hj hjk => by
          by_cases he : j = k
          · subst he; exact h
          · exact hall.out j hj (by omega))
        clear hc hb hall
        generalize fs[k].1 = x at *
        generalize fs[k].2 = d at *
        have hx := size_mk x
        have hd := size_mk d
        by_cases h1 : 500 < x.length
        · have HE := Lib.hid (HNO.out (Or.inl h1))
          clear HNO HYES
          go_wp2
          go_ret
          exact ⟨ret_bool HE.out.symm, rfl⟩
        · by_cases h2 : 5000 < d.length
          · have HE := Lib.hid (HNO.out (Or.inr h2))
            clear HNO HYES
            go_wp2
            go_ret
            exact ⟨ret_bool HE.out.symm, rfl⟩
          · have HE := Lib.hid (HYES.out ⟨by omega, by omega⟩)
            clear HNO HYES
            go_wp2
            go_roundw
            case rel => exact ⟨k + 1, by omega, by go_num, trivial, HE⟩
            case measure => simp [intOf]; omega
      · obtain rfl : k = fs.length := by omega
        have HE := Lib.hid (show M.few fs = true by
          unfold M.few
          rw [decide_eq_true (by omega), Bool.true_and, List.all_eq_true]
          intro f hf
          obtain ⟨j, hj, rfl⟩ := List.getElem_of_mem hf
          have := hall.out j hj hj
          simp [this])
        go_wp2
        go_ret
        exact ⟨ret_bool HE.out.symm, rfl⟩

theorem ex_with : M.withF [([97, 47, 98], [])] ([97], []) = ([], 16) := by decide +kernel
theorem ex_under : M.under [([97, 47, 98], []), ([97, 47, 99], []), ([100], [])] [97] = [([98], []), ([99], [])] := by decide +kernel
theorem ex_path1 : M.path [97, 47, 98] = 0 := by decide +kernel
theorem ex_path2 : M.path [97, 47, 47, 98] = 13 := by decide +kernel
theorem ex_path3 : M.path [47, 97] = 13 := by decide +kernel
theorem ex_path4 : M.path [97, 47, 46, 46] = 13 := by decide +kernel
theorem Fl.block {w : World} {b n : Nat} {fs : List M.Fi} (hb : Blk w b (cells fs).toArray 36) (hn : fs.length = n) : Fl w (.slice (some ⟨b, 0, none⟩) n n) fs := by
  refine ⟨_, n, by rw [hn], (fun h => by cases h), by omega, fun _ => ⟨b, 0, rfl, hb.lt, fun j hj => ?_⟩⟩
  obtain ⟨e0, e1⟩ := cells_at fs j hj
  rw [Nat.zero_add]
  exact ⟨hb.cellN _ (by rw [List.getElem?_toArray, e0]), hb.cellN _ (by rw [List.getElem?_toArray, e1])⟩

theorem small_abc (p d : List UInt8) (h : p.length ≤ 10) (h2 : d.length ≤ 10) : Small (p, d) := ⟨by simp only; omega, by simp only; omega⟩
set_option maxHeartbeats 2000000 in
set_option maxRecDepth 100000 in
theorem awake_any (w : World) (hm : Mx w) :
    Calls Tryd.prog 21 #[] w fun e w' => e = .returned (.bool true) ∧ Old w w' := by
  have HM := Lib.hid hm
  clear hm
  obtain ⟨w1, ew1, hb1, ho1⟩ : ∃ w1, w.alloc (.cells #[S [97, 47, 98], S []] 36) = w1 ∧ Blk w1 w.heap.size #[S [97, 47, 98], S []] 36 ∧ Old w w1 := ⟨_, rfl, Blk.new w _ _, Old.alloc w _⟩
  have G1 := Lib.hid (with_any (.slice (some ⟨w.heap.size, 0, none⟩) 1 1) [([97, 47, 98], [])] ([97], []) w1 (Fl.block hb1 rfl) ⟨by decide, by intro f hf; rw [List.mem_singleton] at hf; subst hf; exact small_abc _ _ (by decide) (by decide)⟩ (small_abc _ _ (by decide) (by decide)) (HM.out.old ho1))
  rw [ex_with] at G1
  have HO1 := Lib.hid ho1
  clear hb1 ho1
  go_enter Tryd.func21, Tryd.ntmps21
  go_wp2_with fail
  refine G1.out.mono ?_
  rintro e w2 ⟨u, rfl, _, ho2⟩
  have HO2 := Lib.hid (HO1.out.trans ho2)
  obtain ⟨w3, ew3, hb3, ho3⟩ : ∃ w3, w2.alloc (.cells #[S [97, 47, 98], S [], S [97, 47, 99], S [], S [100], S []] 36) = w3 ∧ Blk w3 w2.heap.size #[S [97, 47, 98], S [], S [97, 47, 99], S [], S [100], S []] 36 ∧ Old w2 w3 := ⟨_, rfl, Blk.new w2 _ _, Old.alloc w2 _⟩
  have G2 := Lib.hid (under_any (.slice (some ⟨w2.heap.size, 0, none⟩) 3 3) [([97, 47, 98], []), ([97, 47, 99], []), ([100], [])] [97] w3 (Fl.block hb3 rfl) ⟨by decide, by
    intro f hf
    simp only [List.mem_cons, List.not_mem_nil, or_false] at hf
    rcases hf with rfl | rfl | rfl <;> exact small_abc _ _ (by decide) (by decide)⟩ (by decide))
  rw [ex_under] at G2
  have HO3 := Lib.hid (HO2.out.trans ho3)
  clear hb3 ho3 ho2 HO2 HO1 G1 ew1
  go_wp2_with fail
  refine G2.out.mono ?_
  rintro e w4 ⟨u2, rfl, hown4, ho4⟩
  have HO4 := Lib.hid (HO3.out.trans ho4)
  have HFL4 := Lib.hid hown4.fl
  have P1 := Lib.hid (fun w5 hm => path_any [97, 47, 98] (by decide) w5 hm)
  have P2 := Lib.hid (fun w5 hm => path_any [97, 47, 47, 98] (by decide) w5 hm)
  have P3 := Lib.hid (fun w5 hm => path_any [47, 97] (by decide) w5 hm)
  have P4 := Lib.hid (fun w5 hm => path_any [97, 47, 46, 46] (by decide) w5 hm)
  rw [ex_path1] at P1
  rw [ex_path2] at P2
  rw [ex_path3] at P3
  rw [ex_path4] at P4
  clear hown4 ho4 HO3 G2 ew3
  go_wp2_with fail
  refine (P1.out _ (HM.out.old HO4.out)).mono ?_
  rintro e w5 ⟨rfl, ho5⟩
  have HO5 := Lib.hid (HO4.out.trans ho5)
  go_wp2_with fail
  refine (P2.out _ (HM.out.old HO5.out)).mono ?_
  rintro e w6 ⟨rfl, ho6⟩
  have HO6 := Lib.hid (HO5.out.trans ho6)
  go_wp2_with fail
  refine (P3.out _ (HM.out.old HO6.out)).mono ?_
  rintro e w7 ⟨rfl, ho7⟩
  have HO7 := Lib.hid (HO6.out.trans ho7)
  go_wp2_with fail
  refine (P4.out _ (HM.out.old HO7.out)).mono ?_
  rintro e w8 ⟨rfl, ho8⟩
  have HO8 := Lib.hid (HO7.out.trans ho8)
  obtain ⟨w9, ew9, hb9, ho9⟩ : ∃ w9, w8.alloc (.cells #[S [98], S [], S [99], S []] 36) = w9 ∧ Blk w9 w8.heap.size #[S [98], S [], S [99], S []] 36 ∧ Old w8 w9 := ⟨_, rfl, Blk.new w8 _ _, Old.alloc w8 _⟩
  have G3 := Lib.hid (same_any u2 (.slice (some ⟨w8.heap.size, 0, none⟩) 2 2) [([98], []), ([99], [])] [([98], []), ([99], [])] w9 (HFL4.out.old ((((ho5.trans ho6).trans ho7).trans ho8).trans ho9)) (Fl.block hb9 rfl) (by decide) (by decide))
  rw [decide_eq_true rfl] at G3
  have HO9 := Lib.hid (HO8.out.trans ho9)
  clear ho5 ho6 ho7 ho8 ho9 hb9 P1 P2 P3 P4
  go_wp2_with ((with_reducible refine G3.out.mono ?_); rintro e w10 ⟨rfl, n10, rfl⟩)
  go_ret
  exact ⟨rfl, HO9.out.trans (Old.drewN _ _)⟩
end Go.Proofs.YtcmbmbdjdkldoaaDoor
