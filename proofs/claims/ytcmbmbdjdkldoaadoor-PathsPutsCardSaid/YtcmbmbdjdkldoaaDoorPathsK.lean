/- The program's files with one more. -/
import Derived.Test.YtcmbmbdjdkldoaaDoorPathsJ
namespace Go.Proofs.YtcmbmbdjdkldoaaDoor
open Go.RowKit

theorem repl_set : ∀ (fs : List M.Fi) (f : M.Fi) (k : Nat) (hk : k < fs.length), (fs[k].1 == f.1) = true → (∀ j (hj : j < fs.length), j < k → (fs[j].1 == f.1) = false) → M.repl fs f = fs.set k f
  | g :: r, f, 0, _, h, _ => by
      have h' : (g.1 == f.1) = true := h
      rw [M.repl, if_pos h']; rfl
  | g :: r, f, k + 1, hk, h, hn => by
      have h0 : (g.1 == f.1) = false := hn 0 (by simp) (by omega)
      rw [M.repl, if_neg (by rw [h0]; simp), List.set_cons_succ, repl_set r f k (by simpa using hk) h (fun j hj hjk => hn (j + 1) (by simpa using hj) (by omega))]
theorem ins_take : ∀ (fs : List M.Fi) (f : M.Fi) (k : Nat) (hk : k < fs.length), (∀ g ∈ fs, (g.1 == f.1) = false) → (!(M.bl fs[k].1 f.1 || fs[k].1 == f.1)) = true → (∀ j (hj : j < fs.length), j < k → (!(M.bl fs[j].1 f.1 || fs[j].1 == f.1)) = false) → M.ins fs f = fs.take k ++ f :: fs.drop k
  | g :: r, f, 0, _, hne, h, _ => by
      have h0 : (!(M.bl g.1 f.1 || g.1 == f.1)) = true := h
      have h1 := hne g (by simp)
      have hb : M.bl f.1 g.1 = true := M.bl_total (by rw [h1] at h0; simpa using h0) (fun e => by rw [e] at h1; simp at h1)
      rw [M.ins, if_pos hb]; rfl
  | g :: r, f, k + 1, hk, hne, h, hn => by
      have h0 : (!(M.bl g.1 f.1 || g.1 == f.1)) = false := hn 0 (by simp) (by omega)
      have h1 := hne g (by simp)
      rw [h1] at h0
      have h2 : M.bl g.1 f.1 = true := by simpa using h0
      rw [M.ins, if_neg (by rw [M.bl_asymm h2]; simp), ins_take r f k (by simpa using hk) (fun x hx => hne x (by simp [hx])) h (fun j hj hjk => hn (j + 1) (by simpa using hj) (by omega))]
      rfl
theorem ins_last : ∀ (fs : List M.Fi) (f : M.Fi), (∀ g ∈ fs, (g.1 == f.1) = false) → (∀ g ∈ fs, (!(M.bl g.1 f.1 || g.1 == f.1)) = false) → M.ins fs f = fs ++ [f]
  | [], f, _, _ => rfl
  | g :: r, f, hne, h => by
      have h0 := h g (by simp)
      rw [hne g (by simp)] at h0
      have h2 : M.bl g.1 f.1 = true := by simpa using h0
      rw [M.ins, if_neg (by rw [M.bl_asymm h2]; simp), ins_last r f (fun x hx => hne x (by simp [hx])) (fun x hx => h x (by simp [hx]))]
      rfl

set_option maxHeartbeats 2000000 in
set_option maxRecDepth 100000 in
theorem put_any (v : Value) (fs : List M.Fi) (f : M.Fi) (w : World) (h : Fl w v fs) (hlen : fs.length ≤ 1099511627776) :
    Calls Tryd.prog 49 #[v, fv f] w fun e w' => ∃ u, e = .returned u ∧ Own w.heap.size w' u (M.put fs f) ∧ Old w w' := by
  obtain ⟨fp, fd⟩ := f
  obtain ⟨w1, ew1, hb1, ho1⟩ : ∃ w1, w.alloc (.cells #[S fp, S fd] 36) = w1 ∧ Blk w1 w.heap.size #[S fp, S fd] 36 ∧ Old w w1 := ⟨_, rfl, Blk.new w _ _, Old.alloc w _⟩
  have HC := Lib.hid (clone_any v fs w1 (h.old ho1) hlen)
  have hs1 : w1.heap.size = w.heap.size + 1 := by rw [← ew1]; simp
  have HB1 := Lib.hid hb1
  have HO1 := Lib.hid ho1
  clear h hb1 ho1
  show Calls Tryd.prog 49 #[v, .agg #[.string ⟨⟨fp⟩⟩, .string ⟨⟨fd⟩⟩]] w _
  go_enter Tryd.func49, Tryd.ntmps49
  go_wp2_with fail
  refine HC.out.mono ?_
  rintro e w2 ⟨u, rfl, hown2, ho2⟩
  obtain ⟨p, cap, rfl⟩ := hown2.fl.len
  have HF := Lib.hid (find_any _ fs fp w2 hown2.fl (by unfold maxLen; omega))
  have HB2 := Lib.hid (HB1.out.old ho2)
  have hc0 : w2.cell? ⟨w.heap.size, 0, none⟩ = some (S fp) := HB2.out.cellN 0 rfl
  have HOWN2 := Lib.hid hown2
  have HO2 := Lib.hid (HO1.out.trans ho2)
  have hz2 := ho2.size
  clear hown2 ho2 HC
  rcases idx_cases (fun g => g.1 == fp) fs with ⟨hx, hno⟩ | ⟨k, hk, hx, hyes, hno⟩
  · rw [hx] at HF
    have hput : M.put fs (fp, fd) = M.ins fs (fp, fd) := by
      unfold M.put M.has
      rw [if_neg]
      intro h
      obtain ⟨g, hg, h⟩ := List.any_eq_true.1 h
      rw [hno g hg] at h
      cases h
    have HPUT := Lib.hid hput
    have HNO := Lib.hid hno
    clear hput hx hno
    have hneg : ((-1 : Int) < 0) := by omega
    go_wp2_with fail
    refine HF.out.mono ?_
    rintro e w3 ⟨rfl, ho3⟩
    have HB3 := Lib.hid (HB2.out.old ho3)
    have HOWN3 := Lib.hid (HOWN2.out.old ho3)
    have HI := Lib.hid (indexFunc_any 57 #[.pointer (some ⟨w.heap.size, 0, none⟩)] enter_put (fun g => !(M.bl g.1 fp || g.1 == fp)) (fun _ => True) _ fs w3 HOWN3.out.fl (fun _ _ => trivial) (put1 fp w.heap.size w3 (HB3.out.cellN 0 rfl)) (by unfold maxLen; omega))
    have HO3 := Lib.hid (HO2.out.trans ho3)
    have hz3 := ho3.size
    clear ho3 HF HOWN2 HO2 HB2 hc0
    rcases idx_cases (fun g => !(M.bl g.1 fp || g.1 == fp)) fs with ⟨hx, hall⟩ | ⟨k, hk, hx, hyes, hbef⟩
    · rw [hx] at HI
      have HINS := Lib.hid (ins_last fs (fp, fd) HNO.out hall)
      clear hx hall
      go_wp2_with fail
      refine HI.out.mono ?_
      rintro e w4 ⟨rfl, ho4⟩
      have HB4 := HB3.out.old ho4
      have d0 : w4.cell? ⟨w.heap.size, 0, none⟩ = some (S fp) := HB4.cellN 0 rfl
      have d1 : w4.cell? ⟨w.heap.size, 1, none⟩ = some (S fd) := HB4.cellN 1 rfl
      have hs4 := ho4.size
      have HIN := Lib.hid (insert_any w1.heap.size _ fs fs.length w4.heap.size (fp, fd) (w4.alloc (.cells #[S fp, S fd] 36)) (HOWN3.out.old (ho4.trans (Old.alloc _ _))) (by simp; omega) (by omega) hlen (Blk.new w4 _ _) (fun g hg => by
        have := (HOWN3.out.lt g hg).2
        omega))
      have HON := Lib.hid ((HO3.out.trans ho4).trans (Old.alloc w4 (.cells #[S fp, S fd] 36)))
      clear HB4
      go_wp2_with ((with_reducible refine HIN.out.mono ?_); rintro e w5 ⟨u, rfl, hown5, hb5⟩)
      go_ret
      refine ⟨_, rfl, ?_, Below.trans HON.out (hb5.mono (by omega))⟩
      rw [HPUT.out, HINS.out]
      rw [List.take_of_length_le (Nat.le_refl _), List.drop_of_length_le (Nat.le_refl _)] at hown5
      exact Own.mono hown5 (by omega)
    · rw [hx] at HI
      have HINS := Lib.hid (ins_take fs (fp, fd) k hk HNO.out hyes hbef)
      have hk0 : ¬ ((k : Int) < 0) := by omega
      clear hx hyes hbef
      go_wp2_with fail
      refine HI.out.mono ?_
      rintro e w4 ⟨rfl, ho4⟩
      have HB4 := HB3.out.old ho4
      have d0 : w4.cell? ⟨w.heap.size, 0, none⟩ = some (S fp) := HB4.cellN 0 rfl
      have d1 : w4.cell? ⟨w.heap.size, 1, none⟩ = some (S fd) := HB4.cellN 1 rfl
      have hs4 := ho4.size
      have HIN := Lib.hid (insert_any w1.heap.size _ fs k w4.heap.size (fp, fd) (w4.alloc (.cells #[S fp, S fd] 36)) (HOWN3.out.old (ho4.trans (Old.alloc _ _))) (by simp; omega) (by omega) hlen (Blk.new w4 _ _) (fun g hg => by
        have := (HOWN3.out.lt g hg).2
        omega))
      have HON := Lib.hid ((HO3.out.trans ho4).trans (Old.alloc w4 (.cells #[S fp, S fd] 36)))
      clear HB4
      go_wp2_with ((with_reducible refine HIN.out.mono ?_); rintro e w5 ⟨u, rfl, hown5, hb5⟩)
      go_ret
      refine ⟨_, rfl, ?_, Below.trans HON.out (hb5.mono (by omega))⟩
      rw [HPUT.out, HINS.out]
      exact Own.mono hown5 (by omega)
  · rw [hx] at HF
    have hput : M.put fs (fp, fd) = fs.set k (fp, fd) := by
      unfold M.put M.has
      rw [if_pos (List.any_eq_true.2 ⟨_, List.getElem_mem hk, hyes⟩)]
      exact repl_set fs _ k hk hyes hno
    have HPUT := Lib.hid hput
    clear hput hx hno hyes
    obtain ⟨g, cap', hv, hg⟩ := row_at HOWN2.out (by omega)
    obtain ⟨rfl, rfl⟩ : p = some ⟨g, 0, none⟩ ∧ cap = cap' := by injection hv with h1 h2 h3; exact ⟨h1, h3⟩
    clear hv
    have hx0 : ¬ ((k : Int) < 0) := by omega
    go_wp2_with fail
    refine HF.out.mono ?_
    rintro e w3 ⟨rfl, ho3⟩
    have HOWN3 := Lib.hid (HOWN2.out.old ho3)
    have HB3 := HB2.out.old ho3
    have d0 : w3.cell? ⟨w.heap.size, 0, none⟩ = some (S fp) := HB3.cellN 0 rfl
    have d1 : w3.cell? ⟨w.heap.size, 1, none⟩ = some (S fd) := HB3.cellN 1 rfl
    obtain ⟨c0, f0⟩ := row_cell HOWN3.out (k * 2) (by rw [cells_len]; omega)
    obtain ⟨c1, f1⟩ := row_cell HOWN3.out (k * 2 + 1) (by rw [cells_len]; omega)
    clear HB3
    go_wp2
    go_ret
    refine ⟨_, rfl, ?_, (HO2.out.trans ho3).setNew (p := ⟨g, k * 2, none⟩) (by show w.heap.size ≤ g; omega) _ |>.setNew (p := ⟨g, k * 2 + 1, none⟩) (by show w.heap.size ≤ g; omega) _⟩
    have h1 := row_set (row_set HOWN3.out (i := k * 2) (by rw [cells_len]; omega) (S fp)) (i := k * 2 + 1) (by rw [List.length_set, cells_len]; omega) (S fd)
    have e := cells_set fs k (fp, fd)
    simp only at e
    rw [e] at h1
    rw [HPUT.out]
    have h2 : Own w1.heap.size ((w3.setCell ⟨g, k * 2, none⟩ (S fp)).setCell ⟨g, k * 2 + 1, none⟩ (S fd)) (.slice (some ⟨g, 0, none⟩) fs.length cap) (fs.set k (fp, fd)) := by
      show World.ownsRow _ _ _ 2 _ (fs.set k (fp, fd)).length _
      rw [List.length_set]
      exact h1
    exact h2.mono (by omega)
end Go.Proofs.YtcmbmbdjdkldoaaDoor
