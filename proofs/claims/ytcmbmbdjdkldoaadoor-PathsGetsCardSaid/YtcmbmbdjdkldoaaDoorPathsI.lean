/- The library's Insert of one file into a list that the call owns. -/
import Derived.Test.YtcmbmbdjdkldoaaDoorPathsH
import Derived.Lib.Overlaps
import Derived.Lib.AppendZerosOnto
import Derived.Lib.AppendZeros
namespace Go.Proofs.YtcmbmbdjdkldoaaDoor
open Go.RowKit

theorem ins_row (L : List Value) (fs : List M.Fi) (f : M.Fi) (i : Nat) (hi : i < fs.length) (hL : L.take (fs.length * 2) = cells fs) (hl : (fs.length + 1) * 2 ≤ L.length) :
    (L.take ((i + 1) * 2) ++ cells (fs.drop i) ++ L.drop ((i + 1) * 2 + (cells (fs.drop i)).length)).length = L.length ∧
    ∀ A, A = L.take ((i + 1) * 2) ++ cells (fs.drop i) ++ L.drop ((i + 1) * 2 + (cells (fs.drop i)).length) →
      (A.take (i * 2) ++ [S f.1, S f.2] ++ A.drop (i * 2 + 2)).length = L.length ∧ (A.take (i * 2) ++ [S f.1, S f.2] ++ A.drop (i * 2 + 2)).take ((fs.length + 1) * 2) = cells (fs.take i ++ f :: fs.drop i) := by
  have hc : (cells (fs.drop i)).length = (fs.length - i) * 2 := by rw [cells_len]; simp
  have h1 : (L.take ((i + 1) * 2) ++ cells (fs.drop i) ++ L.drop ((i + 1) * 2 + (cells (fs.drop i)).length)).length = L.length := by
    simp only [List.length_append, List.length_take, List.length_drop, hc]; omega
  refine ⟨h1, ?_⟩
  rintro A hA
  have hAl : A.length = L.length := by rw [hA]; exact h1
  have t1 : A.take (i * 2) = cells (fs.take i) := by
    rw [hA, List.append_assoc, List.take_append_of_le_length (by simp; omega), List.take_take, Nat.min_eq_left (by omega), ← cells_take, ← hL, List.take_take, Nat.min_eq_left (by omega)]
  have t2 : A.drop (i * 2 + 2) = cells (fs.drop i) ++ L.drop ((i + 1) * 2 + (cells (fs.drop i)).length) := by
    rw [hA, List.append_assoc, List.drop_append, List.drop_eq_nil_of_le (by simp; omega), List.nil_append, show i * 2 + 2 - (L.take ((i + 1) * 2)).length = 0 by simp; omega, List.drop_zero]
  constructor
  · simp only [List.length_append, List.length_take, List.length_drop, hAl, List.length_cons, List.length_nil]; omega
  · rw [t1, t2, show cells (fs.take i) ++ [S f.1, S f.2] ++ (cells (fs.drop i) ++ L.drop ((i + 1) * 2 + (cells (fs.drop i)).length)) = (cells (fs.take i) ++ [S f.1, S f.2] ++ cells (fs.drop i)) ++ L.drop ((i + 1) * 2 + (cells (fs.drop i)).length) by simp,
      List.take_append_of_le_length (by simp [hc, cells_len]; omega), List.take_of_length_le (by simp [hc, cells_len]; omega), cells_append, cells_cons]
    simp
theorem ins_row2 (L : List Value) (fs : List M.Fi) (f : M.Fi) (i : Nat) (hi : i < fs.length) (hL : L.take (i * 2) = cells (fs.take i)) (hl : (fs.length + 1) * 2 ≤ L.length) :
    (L.take (i * 2) ++ [S f.1, S f.2] ++ L.drop (i * 2 + 2)).length = L.length ∧
    ∀ A, A = L.take (i * 2) ++ [S f.1, S f.2] ++ L.drop (i * 2 + 2) →
      (A.take ((i + 1) * 2) ++ cells (fs.drop i) ++ A.drop ((i + 1) * 2 + (cells (fs.drop i)).length)).length = L.length ∧
      (A.take ((i + 1) * 2) ++ cells (fs.drop i) ++ A.drop ((i + 1) * 2 + (cells (fs.drop i)).length)).take ((fs.length + 1) * 2) = cells (fs.take i ++ f :: fs.drop i) := by
  have hc : (cells (fs.drop i)).length = (fs.length - i) * 2 := by rw [cells_len]; simp
  have h1 : (L.take (i * 2) ++ [S f.1, S f.2] ++ L.drop (i * 2 + 2)).length = L.length := by
    simp only [List.length_append, List.length_take, List.length_drop, List.length_cons, List.length_nil]; omega
  refine ⟨h1, ?_⟩
  rintro A hA
  have hAl : A.length = L.length := by rw [hA]; exact h1
  have t1 : A.take ((i + 1) * 2) = cells (fs.take i) ++ [S f.1, S f.2] := by
    rw [hA, hL, List.take_append_of_le_length (by simp [cells_len]; omega), List.take_of_length_le (by simp [cells_len]; omega)]
  constructor
  · simp only [List.length_append, List.length_take, List.length_drop, hAl, hc]; omega
  · rw [t1, List.take_append_of_le_length (by simp [hc, cells_len]; omega), List.take_of_length_le (by simp [hc, cells_len]; omega), cells_append, cells_cons]
    simp

theorem size2 : (Tryd.prog.info? 36).map (·.size) = some 2 := by kernel_rfl

set_option maxHeartbeats 2000000 in
set_option maxRecDepth 100000 in
/-- At the end. -/
theorem insert_end (B : Nat) (u : Value) (fs : List M.Fi) (vb : Nat) (f : M.Fi) (w : World) (h : Own B w u fs) (hB : B ≤ w.heap.size) (hlen : fs.length ≤ 1099511627776) (hv : Blk w vb #[S f.1, S f.2] 36) :
    Calls Tryd.prog 58 #[u, .int .i64 fs.length, .slice (some ⟨vb, 0, none⟩) 1 1] w fun e w' => ∃ u', e = .returned u' ∧ Own B w' u' (fs ++ [f]) ∧ Below B w w' := by
  obtain ⟨i0, hi, hz0, hz1, hz2⟩ := info_parts infoFile
  have HNW := Lib.hid (show ∀ j u, ([S f.1, S f.2] : List Value)[j]? = some u → w.cell? ((⟨vb, 0, none⟩ : Addr).add j) = some u from World.news_of_block hv)
  have HOWN := Lib.hid h
  have hn : ¬ ((fs.length : Int) < 0) := by omega
  obtain ⟨p, cap, rfl⟩ := h.fl.len
  have hcap : fs.length ≤ cap := by
    obtain ⟨p', cap', hv', _, hc, _⟩ := h.fl
    injection hv' with h1 h2 h3
    omega
  clear h
  have hcap2 : (fs.length : Int) ≤ (cap : Int) := by omega
  have goal : ∀ c' v' w', w'.ownsRow B 36 2 v' (fs.length + 1) (cells fs ++ [S f.1, S f.2]) → w.grownBy w' (Value.slice p fs.length c').ownBlock → Own B w' v' (fs ++ [f]) ∧ Below B w w' := by
    intro c' v' w' h1 h2
    refine ⟨?_, (Below.refl _ w).grown h2 hB (fun q hq => row_from HOWN.out q (by cases p <;> exact hq))⟩
    show w'.ownsRow B 36 2 v' (fs ++ [f]).length (cells (fs ++ [f]))
    rw [cells_append, cells_one, List.length_append]
    exact h1
  have GOAL := Lib.hid goal
  clear goal
  have hown := HOWN.out
  go_enter Tryd.func58, Tryd.ntmps58
  go_wp2_with (at_builtin; refine wpList_append_own _ rfl _ _ 26 rfl B 36 i0 _ 2 32 Tryd.underlying26 hi hz0 hz1 hz2 rfl (by decide) _ _ _ rfl hown ⟨vb, 0, none⟩ 1 1 [S f.1, S f.2] rfl rfl HNW.out (by intro u hu; simp only [List.mem_cons, List.not_mem_nil, or_false] at hu; rcases hu with rfl | rfl <;> rfl) (by unfold maxLen; omega) (by omega) hB ?_)
  all_goals
    intro v' w2 hown2 hgrow _
    have H2 := Lib.hid (GOAL.out _ v' w2 hown2 hgrow)
    clear hown2 hgrow
    go_wp2
    go_ret
    exact ⟨_, rfl, H2.out⟩

set_option maxHeartbeats 4000000 in
set_option maxRecDepth 100000 in
/-- Inside, where there is room: in place. -/
theorem insert_room (B g cap : Nat) (fs : List M.Fi) (i vb : Nat) (f : M.Fi) (w : World) (h : Own B w (.slice (some ⟨g, 0, none⟩) fs.length cap) fs) (hlt : i < fs.length) (hroom : fs.length + 1 ≤ cap) (hlen : fs.length ≤ 1099511627776)
    (hv : Blk w vb #[S f.1, S f.2] 36) (hne : vb ≠ g) :
    Calls Tryd.prog 58 #[.slice (some ⟨g, 0, none⟩) fs.length cap, .int .i64 i, .slice (some ⟨vb, 0, none⟩) 1 1] w fun e w' => ∃ u', e = .returned u' ∧ Own B w' u' (fs.take i ++ f :: fs.drop i) ∧ Below B w w' := by
  obtain ⟨h1, ⟨hv', _⟩ | ⟨g', cap', cur, hv', hg, hb, hcap, hmax, hsz, htake⟩⟩ := h
  · cases hv'
  have e1 : g = g' := by injection hv' with h1 h2 h3; injection h1 with h1; injection h1 with h1
  have e2 : cap = cap' := by injection hv' with h1 h2 h3
  subst e1; subst e2
  clear hv' hcap h1
  unfold maxLen at hmax
  have hpure := ins_row cur.toList fs f i hlt htake (by simp [hsz]; omega)
  obtain ⟨hA1, hA2⟩ := hpure
  have hfit1 : (i + 1) * 2 + (cells (fs.drop i)).length ≤ cur.size := by rw [cells_len]; simp; omega
  have hdl : (cells (fs.drop i)).length = (fs.length - i) * 2 := by rw [cells_len]; simp
  have hsrc1 : ∀ j v, (cells (fs.drop i))[j]? = some v → w.drew.cell? ((⟨g, i * 2, none⟩ : Addr).add j) = some v := by
    intro j v hj
    have hjl := (List.getElem?_eq_some_iff.1 hj).1
    rw [hdl] at hjl
    rw [Addr.add_lit]
    have : w.drew.cell? ⟨g, i * 2 + j, none⟩ = cur[i * 2 + j]? := by show w.cell? _ = _; simp [World.cell?, hb]
    rw [this, ← hj, ← cells_drop, List.getElem?_drop, ← htake, List.getElem?_take, if_pos (by omega)]
    simp
  have hcp1 := fun ty dc sc => run_copy_row_k (P := Tryd.prog) 2 w.drew 26 26 ty 36 g ((i + 1) * 2) (fs.length - i) dc ⟨g, i * 2, none⟩ (fs.length + 1 - i) sc cur 36 (cells (fs.drop i)) Tryd.underlying26 size2 hb
    (by rw [hdl]; simp only [Nat.min_def]; split <;> omega) hsrc1 hfit1 (cells_plain _)
  obtain ⟨A1, eA1⟩ : ∃ A1, A1 = cur.toList.take ((i + 1) * 2) ++ cells (fs.drop i) ++ cur.toList.drop ((i + 1) * 2 + (cells (fs.drop i)).length) := ⟨_, rfl⟩
  rw [← eA1] at hcp1 hA1
  obtain ⟨hA2l, hA2t⟩ := hA2 A1 eA1
  obtain ⟨W1, eW1⟩ : ∃ W1, W1 = w.drew.setRow g A1.toArray := ⟨_, rfl⟩
  rw [← eW1] at hcp1
  have hb1 : W1.heap[g]? = some (.cells A1.toArray 36 (0, 0)) := by rw [eW1]; exact setRow_heap w.drew g cur _ _ _ hb
  have hv1 : Blk W1 vb #[S f.1, S f.2] 36 := by rw [eW1]; exact (setRow_other w.drew g vb A1.toArray hne).trans hv
  have hk1 : Below B w W1 := by rw [eW1]; exact ⟨rfl, rfl, rfl, by simp, fun k hk => setRow_other w.drew g k _ (by omega)⟩
  have hcp2 := fun ty dc => run_copy_row_k (P := Tryd.prog) 2 W1 26 26 ty 36 g (i * 2) (fs.length + 1 - i) dc ⟨vb, 0, none⟩ 1 1 A1.toArray 36 [S f.1, S f.2] Tryd.underlying26 size2 hb1
    (by simp only [Nat.min_def]; split <;> simp <;> omega) (World.news_of_block hv1) (by simp [hA1, hsz]; omega) (by intro u hu; simp only [List.mem_cons, List.not_mem_nil, or_false] at hu; rcases hu with rfl | rfl <;> rfl)
  obtain ⟨W2, eW2⟩ : ∃ W2, W2 = W1.setRow g (A1.toArray.toList.take (i * 2) ++ [S f.1, S f.2] ++ A1.toArray.toList.drop (i * 2 + ([S f.1, S f.2] : List Value).length)).toArray := ⟨_, rfl⟩
  rw [← eW2] at hcp2
  have HEND := Lib.hid (show Own B W2 (.slice (some ⟨g, 0, none⟩) (fs.length + 1) cap) (fs.take i ++ f :: fs.drop i) ∧ Below B w W2 from by
    have hl : (fs.take i ++ f :: fs.drop i).length = fs.length + 1 := by simp; omega
    refine ⟨⟨cells_len _, Or.inr ⟨g, cap, _, by rw [hl], hg, by rw [eW2]; exact setRow_heap W1 g _ _ _ _ hb1, by rw [hl]; exact hroom, hmax, ?_, ?_⟩⟩, hk1.trans (by rw [eW2]; exact ⟨rfl, rfl, rfl, by simp, fun k hk => setRow_other W1 g k _ (by omega)⟩)⟩
    · simpa [hsz] using hA2l
    · rw [hl]; simpa using hA2t)
  have hov : ∀ lb cb, (callFunc 63 #[.slice (some ⟨vb, 0, none⟩) 1 1, .slice (some ⟨g, (i + 1) * 2, none⟩) lb cb]).run Tryd.prog w = .ok (.value (.bool false)) w := fun lb cb => by
    rw [run_callFunc_extern Tryd.func63 (by kernel_rfl) (by kernel_rfl) (by kernel_rfl) (e := Extern.SlicesOverlaps.overlaps #[26, 26] #[4]) (by kernel_rfl),
      Lib.run_overlaps_apart w 26 4 36 Tryd.underlying26 2 Tryd.sizeOf36 ⟨vb, 0, none⟩ ⟨g, (i + 1) * 2, none⟩ 1 1 lb cb hne 36 36 2 cur.size (by have := hv; unfold Blk at this; simp [World.shape?, this]) (by simp [World.shape?, hb]) (by omega) (hv.free 0) (hv.free 2)]
    rfl
  have HW := Lib.hid eW1
  have HW2 := Lib.hid eW2
  clear eW1 eW2 hA1 hA2 hA2l hA2t eA1 hsrc1 hfit1 hdl hb hb1 hv1 hk1 htake hsz hmax
  have hz2 : ¬ ((i : Int) = (fs.length : Int)) := by omega
  have hz3 : ¬ ((cap : Int) < (fs.length : Int) + 1) := by omega
  have w1 : IntKind.i64.wrap ((fs.length : Int) + 1) = (fs.length : Int) + 1 := IntWalk.i64_in _ (by omega)
  have w2 : IntKind.i64.wrap ((i : Int) + 1) = (i : Int) + 1 := IntWalk.i64_in _ (by omega)
  have b1 : (0 : Int) ≤ (i : Int) + 1 := by omega
  have b2 : (i : Int) ≤ (fs.length : Int) := by omega
  have b3 : (i : Int) + 1 ≤ (fs.length : Int) + 1 := by omega
  have b4 : (i : Int) ≤ (fs.length : Int) + 1 := by omega
  have b5 : ((i : Int) + 1).toNat = i + 1 := by omega
  have b6 : ((fs.length : Int) + 1).toNat = fs.length + 1 := by omega
  have b7 : ¬ (cap = i + 1) := by omega
  have b8 : ¬ (cap = i) := by omega
  have b9 : (fs.length : Int) + 1 ≤ (cap : Int) := by omega
  have b10 : (0 : Int) ≤ (fs.length : Int) + 1 := by omega
  go_enter Tryd.func58, Tryd.ntmps58
  go_wp2
  go_still_tail 8, (by kernel_rfl)
  change wpList _ _ _ _ _ w.drew
  go_wp2
  go_ret
  exact ⟨_, rfl, HEND.out⟩
end Go.Proofs.YtcmbmbdjdkldoaaDoor
