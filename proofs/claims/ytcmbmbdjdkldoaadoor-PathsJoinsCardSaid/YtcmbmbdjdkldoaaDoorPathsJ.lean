/- The library's Insert of one file into a list that the call owns: where there is no room; wherever. -/
import Derived.Test.YtcmbmbdjdkldoaaDoorPathsI
namespace Go.Proofs.YtcmbmbdjdkldoaaDoor
open Go.RowKit

theorem zero_len (z : Value) (k : Nat) : (Builtin.zeroCells z.cells k).size = k * z.cells.size := by simp [Builtin.zeroCells]

set_option maxHeartbeats 4000000 in
set_option maxRecDepth 100000 in
/-- Inside, where there is no room: a new row. -/
theorem insert_grow (B g cap : Nat) (fs : List M.Fi) (i vb : Nat) (f : M.Fi) (w : World) (h : Own B w (.slice (some ⟨g, 0, none⟩) fs.length cap) fs) (hB : B ≤ w.heap.size) (hlt : i < fs.length) (hroom : cap < fs.length + 1) (hcap : fs.length ≤ cap) (hlen : fs.length ≤ 1099511627776)
    (hv : Blk w vb #[S f.1, S f.2] 36) :
    Calls Tryd.prog 58 #[.slice (some ⟨g, 0, none⟩) fs.length cap, .int .i64 i, .slice (some ⟨vb, 0, none⟩) 1 1] w fun e w' => ∃ u', e = .returned u' ∧ Own B w' u' (fs.take i ++ f :: fs.drop i) ∧ Below B w w' := by
  obtain ⟨i0, hi, hz0, hz1, hz2⟩ := info_parts infoFile
  have hlc := cells_len fs
  have hold : (Builtin.firstCells i0.size i (.slice (some ⟨g, 0, none⟩) i cap)).run Tryd.prog w.drew = .ok (cells (fs.take i)).toArray w.drew := by
    rw [hz1]
    exact run_firstCells_some w.drew 2 i ⟨g, 0, none⟩ i cap (cells (fs.take i)) (by rw [cells_len]; simp; omega) (fun j v hj => by
      have hjl := (List.getElem?_eq_some_iff.1 hj).1
      rw [cells_len] at hjl
      simp at hjl
      rw [Addr.add_lit, Nat.zero_add]
      have := (row_cell h j (by omega)).1
      show w.cell? _ = _
      rw [this, ← hj, ← cells_take, List.getElem?_take, if_pos (by omega), List.getElem?_eq_getElem (by omega)])
  have hkk : (fs.length : Int) + 1 - (i : Int) = ((fs.length + 1 - i : Nat) : Int) := by omega
  have hik : i + (fs.length + 1 - i) = fs.length + 1 := by omega
  have hrz : ∀ ty, (Builtin.append_ #[26, 3] ty #[.slice (some ⟨g, 0, none⟩) i cap, .int .i64 ((fs.length : Int) + 1 - (i : Int))]).run Tryd.prog w =
      .ok (.slice (some ⟨w.heap.size, 0, none⟩) (fs.length + 1) (grownCap w (fs.length + 1) cap 36)) (w.drew.alloc (.cells ((cells (fs.take i)).toArray ++ Builtin.zeroCells (Value.agg #[.string ByteArray.empty, .string ByteArray.empty]).cells (fs.length + 1 - i) ++ Builtin.zeroCells (Value.agg #[.string ByteArray.empty, .string ByteArray.empty]).cells (grownCap w (fs.length + 1) cap 36 - (fs.length + 1))) 36)) := fun ty => by
    have h := Lib.run_append_grow_zeros w 26 3 ty 36 i0 _ .i64 .i64 Tryd.underlying26 Tryd.underlying3 hi hz0 (some ⟨g, 0, none⟩) i cap (cells (fs.take i)) hold (fs.length + 1 - i) (by omega) (by omega) (by omega) (by omega) (by rw [hz2]; omega) (by rw [hz2, hik]; exact growslice_fits hroom (by omega))
    rw [hik] at h
    rw [hkk]
    exact h
  have hGn : fs.length + 1 ≤ grownCap w (fs.length + 1) cap 36 := grownCap_ge w _ _ _
  have hG63 := grownCap_le_maxLen w (fs.length + 1) cap 36 (by unfold maxLen; omega)
  generalize grownCap w (fs.length + 1) cap 36 = G at *
  obtain ⟨ROW, hROW⟩ : ∃ ROW : Array Value, ROW = (cells (fs.take i)).toArray ++ Builtin.zeroCells (Value.agg #[.string ByteArray.empty, .string ByteArray.empty]).cells (fs.length + 1 - i) ++ Builtin.zeroCells (Value.agg #[.string ByteArray.empty, .string ByteArray.empty]).cells (G - (fs.length + 1)) := ⟨_, rfl⟩
  rw [← hROW] at hrz
  have hRl : ROW.size = G * 2 := by
    have e1 : (Value.agg #[.string ByteArray.empty, .string ByteArray.empty]).cells.size = 2 := rfl
    rw [hROW, Array.size_append, Array.size_append, zero_len, zero_len, e1, List.size_toArray, cells_len]
    simp only [List.length_take]
    omega
  have hRt : ROW.toList.take (i * 2) = cells (fs.take i) := by
    rw [hROW, Array.toList_append, Array.toList_append, List.append_assoc, List.take_append_of_le_length (by simp [cells_len]; omega), List.take_of_length_le (by simp [cells_len]; omega)]
  obtain ⟨hA1, hA2⟩ := ins_row2 ROW.toList fs f i hlt hRt (by simp [hRl]; omega)
  obtain ⟨W1, eW1⟩ : ∃ W1, W1 = w.drew.alloc (.cells ROW 36) := ⟨_, rfl⟩
  rw [← eW1] at hrz
  have hb1 : W1.heap[w.heap.size]? = some (.cells ROW 36 (0, 0)) := by rw [eW1]; exact heap_alloc_new w.drew _
  have ho1 : Old w W1 := by rw [eW1]; exact (Old.drewN w 1).trans (Old.alloc _ _)
  have hv1 : Blk W1 vb #[S f.1, S f.2] 36 := hv.old ho1
  have hcpA := fun ty dc => run_copy_row_k (P := Tryd.prog) 2 W1 26 26 ty 36 w.heap.size (i * 2) (fs.length + 1 - i) dc ⟨vb, 0, none⟩ 1 1 ROW 36 [S f.1, S f.2] Tryd.underlying26 size2 hb1
    (by simp only [Nat.min_def]; split <;> simp <;> omega) (World.news_of_block hv1) (by simp [hRl]; omega) (by intro u hu; simp only [List.mem_cons, List.not_mem_nil, or_false] at hu; rcases hu with rfl | rfl <;> rfl)
  obtain ⟨A1, eA1⟩ : ∃ A1, A1 = ROW.toList.take (i * 2) ++ [S f.1, S f.2] ++ ROW.toList.drop (i * 2 + ([S f.1, S f.2] : List Value).length) := ⟨_, rfl⟩
  rw [← eA1] at hcpA
  obtain ⟨hA2l, hA2t⟩ := hA2 A1 eA1
  have hA1l : A1.length = G * 2 := by rw [eA1]; exact hA1.trans (by simpa using hRl)
  obtain ⟨W2, eW2⟩ : ∃ W2, W2 = W1.setRow w.heap.size A1.toArray := ⟨_, rfl⟩
  rw [← eW2] at hcpA
  have hb2 : W2.drew.heap[w.heap.size]? = some (.cells A1.toArray 36 (0, 0)) := by rw [eW2]; exact setRow_heap W1 _ ROW _ _ _ hb1
  have hk2 : ∀ k, k ≠ w.heap.size → W2.drew.heap[k]? = W1.heap[k]? := fun k hk => by rw [eW2]; exact setRow_other W1 w.heap.size k _ hk
  have ho2 : Old w W2.drew := ⟨by rw [eW2]; exact ho1.os, by rw [eW2]; exact ho1.tape, by rw [eW2]; exact ho1.output, by rw [eW2]; simpa using ho1.size, fun k hk => (hk2 k (by omega)).trans (ho1.block k hk)⟩
  have hgl : g < w.heap.size := by
    obtain ⟨_, ⟨hv', _⟩ | ⟨g', cap', cur, hv', _, hb, _⟩⟩ := h
    · cases hv'
    · have e1 : g = g' := by injection hv' with h1 h2 h3; injection h1 with h1; injection h1 with h1
      rw [e1]; exact (Array.getElem?_eq_some_iff.1 hb).1
  have hdl : (cells (fs.drop i)).length = (fs.length - i) * 2 := by rw [cells_len]; simp
  have hcpB := fun ty dc sc => run_copy_row_k (P := Tryd.prog) 2 W2.drew 26 26 ty 36 w.heap.size ((i + 1) * 2) (fs.length - i) dc ⟨g, i * 2, none⟩ (fs.length - i) sc A1.toArray 36 (cells (fs.drop i)) Tryd.underlying26 size2 hb2
    (by rw [hdl]; simp only [Nat.min_def]; split <;> omega)
    (fun j v hj => by
      have hjl := (List.getElem?_eq_some_iff.1 hj).1
      rw [hdl] at hjl
      rw [Addr.add_lit]
      have h1 := (row_cell h (i * 2 + j) (by omega)).1
      have h2 := (ho2.cell (p := ⟨g, i * 2 + j, none⟩) hgl).trans h1
      rw [h2, ← hj, ← cells_drop, List.getElem?_drop, List.getElem?_eq_getElem (by omega)])
    (by rw [hdl]; simp [hA1l]; omega) (cells_plain _)
  obtain ⟨W3, eW3⟩ : ∃ W3, W3 = W2.drew.setRow w.heap.size (A1.toArray.toList.take ((i + 1) * 2) ++ cells (fs.drop i) ++ A1.toArray.toList.drop ((i + 1) * 2 + (cells (fs.drop i)).length)).toArray := ⟨_, rfl⟩
  rw [← eW3] at hcpB
  have HEND := Lib.hid (show Own B W3 (.slice (some ⟨w.heap.size, 0, none⟩) (fs.length + 1) G) (fs.take i ++ f :: fs.drop i) ∧ Below B w W3 from by
    have hl : (fs.take i ++ f :: fs.drop i).length = fs.length + 1 := by simp; omega
    refine ⟨⟨cells_len _, Or.inr ⟨w.heap.size, G, _, by rw [hl], hB, by rw [eW3]; exact setRow_heap W2.drew _ _ _ _ _ hb2, by rw [hl]; exact hGn, hG63, ?_, ?_⟩⟩, ?_⟩
    · simpa [hRl] using hA2l
    · rw [hl]; simpa using hA2t
    · rw [eW3]; exact Below.trans (ho2.mono hB) ⟨rfl, rfl, rfl, by simp, fun k hk => setRow_other W2.drew _ k _ (by omega)⟩)
  clear eW3 eW2 eW1 eA1 hA1 hA2 hA2l hA2t hA1l hRl hRt hROW hold hkk hik hb1 hb2 hk2 ho1 ho2 hv1 hdl hlc h
  unfold maxLen at hG63
  have hz2 : ¬ ((i : Int) = (fs.length : Int)) := by omega
  have hz3 : (cap : Int) < (fs.length : Int) + 1 := by omega
  have w1 : IntKind.i64.wrap ((fs.length : Int) + 1) = (fs.length : Int) + 1 := IntWalk.i64_in _ (by omega)
  have w2 : IntKind.i64.wrap ((i : Int) + 1) = (i : Int) + 1 := IntWalk.i64_in _ (by omega)
  have w3 : IntKind.i64.wrap ((fs.length : Int) + 1 - (i : Int)) = (fs.length : Int) + 1 - (i : Int) := IntWalk.i64_in _ (by omega)
  have b1 : (0 : Int) ≤ (i : Int) + 1 := by omega
  have b2 : (i : Int) ≤ (fs.length : Int) := by omega
  have b3 : (i : Int) + 1 ≤ (fs.length : Int) + 1 := by omega
  have b4 : (i : Int) ≤ (fs.length : Int) + 1 := by omega
  have b5 : ((i : Int) + 1).toNat = i + 1 := by omega
  have b7 : ¬ (G = i + 1) := by omega
  have b8 : ¬ (G = i) := by omega
  have b9 : ¬ (cap = i) := by omega
  have b10 : (i : Int) ≤ (cap : Int) := by omega
  go_enter Tryd.func58, Tryd.ntmps58
  go_wp2_with (at_builtin; refine Lib.wpList_append_run _ rfl _ _ _ _ rfl _ _ rfl rfl _ _ (hrz _) ?_)
  go_still_tail 8, (by kernel_rfl)
  change wpList _ _ _ _ _ W2.drew
  go_wp2
  go_ret
  exact ⟨_, rfl, HEND.out⟩

theorem insert_any (B : Nat) (u : Value) (fs : List M.Fi) (i vb : Nat) (f : M.Fi) (w : World) (h : Own B w u fs) (hB : B ≤ w.heap.size) (hi : i ≤ fs.length) (hlen : fs.length ≤ 1099511627776) (hv : Blk w vb #[S f.1, S f.2] 36) (hne : ∀ g, u.ownBlock = some g → vb ≠ g) :
    Calls Tryd.prog 58 #[u, .int .i64 i, .slice (some ⟨vb, 0, none⟩) 1 1] w fun e w' => ∃ u', e = .returned u' ∧ Own B w' u' (fs.take i ++ f :: fs.drop i) ∧ Below B w w' := by
  by_cases he : i = fs.length
  · subst he
    have := insert_end B u fs vb f w h hB hlen hv
    rwa [List.take_of_length_le (Nat.le_refl _), List.drop_of_length_le (Nat.le_refl _)]
  · obtain ⟨g, cap, rfl, _⟩ := row_at h (by omega)
    by_cases hr : fs.length + 1 ≤ cap
    · exact insert_room B g cap fs i vb f w h (by omega) hr hlen hv (hne g rfl)
    · obtain ⟨p', cap', hv', _, hc, _⟩ := h.fl
      have : cap = cap' := by injection hv' with h1 h2 h3
      exact insert_grow B g cap fs i vb f w h hB (by omega) (by omega) (by omega) hlen hv
end Go.Proofs.YtcmbmbdjdkldoaaDoor
