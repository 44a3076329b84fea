/- The program's With, Into and Union. -/
import Derived.Test.YtcmbmbdjdkldoaaDoorPathsK
namespace Go.Proofs.YtcmbmbdjdkldoaaDoor
open Go.RowKit

set_option maxHeartbeats 2000000 in
set_option maxRecDepth 100000 in
theorem with_any (v : Value) (fs : List M.Fi) (f : M.Fi) (w : World) (h : Fl w v fs) (hf : Alls fs) (hs : Small f) (hm : Mx w) :
    Calls Tryd.prog 32 #[v, fv f] w fun e w' => ∃ u, e = .returned (.tuple #[u, .int .i64 (M.withF fs f).2]) ∧ Own w.heap.size w' u (M.withF fs f).1 ∧ Old w w' := by
  obtain ⟨w1, ew1, hb1, ho1⟩ : ∃ w1, w.alloc (.cells #[S f.1, S f.2] 36) = w1 ∧ Blk w1 w.heap.size #[S f.1, S f.2] 36 ∧ Old w w1 := ⟨_, rfl, Blk.new w _ _, Old.alloc w _⟩
  have G1 := Lib.hid (fun w2 (hm : Mx w2) => checkFile_any f (by have := hs.1; unfold maxLen; omega) (by have := hs.2; unfold maxLen; omega) w2 hm)
  have G2 := Lib.hid (fun w2 (h : Fl w2 v fs) => hasKin_any v fs f.1 w2 h hf hs.1)
  have G3 := Lib.hid (fun w2 (h : Fl w2 v fs) => put_any v fs f w2 h hf.1)
  have HM := Lib.hid (hm.old ho1)
  have H := Lib.hid (h.old ho1)
  have HB1 := Lib.hid hb1
  have HO1 := Lib.hid ho1
  have HS := Lib.hid (show w.heap.size ≤ w1.heap.size from ho1.size)
  have c0 := hb1.cellN 0 rfl
  have c1 := hb1.cellN 1 rfl
  have HW := Lib.hid (show M.withF fs f = if M.chk1 f ≠ 0 then ([], M.chk1 f) else if M.kin fs f.1 then ([], 16) else if (M.put fs f).length > 32 then ([], 15) else (M.put fs f, 0) from rfl)
  clear h hf hs hm hb1 ho1
  obtain ⟨fp, fd⟩ := f
  simp only at *
  generalize M.chk1 (fp, fd) = e1 at *
  generalize M.kin fs fp = kn at *
  generalize M.put fs (fp, fd) = pt at *
  show Calls Tryd.prog 32 #[v, .agg #[.string ⟨⟨fp⟩⟩, .string ⟨⟨fd⟩⟩]] w _
  by_cases he : e1 = 0
  · subst he
    cases kn with
    | true =>
      rw [if_neg (by decide), if_pos rfl] at HW
      rw [HW.out]
      go_enter Tryd.func32, Tryd.ntmps32
      go_wp2_with (first
        | ((with_reducible refine (G1.out _ HM.out).mono ?_); rintro e w2 ⟨rfl, ho2⟩; have d0 := (HB1.out.old ho2).cellN 0 rfl)
        | ((with_reducible refine (G2.out _ (H.out.old ho2)).mono ?_); rintro e w3 ⟨rfl, ho3⟩))
      go_ret2
      exact ⟨_, rfl, Own.nil _ _, (HO1.out.trans ho2).trans ho3⟩
    | false =>
      rw [if_neg (by decide), if_neg (by decide)] at HW
      have hd : ∀ w2, Old w1 w2 → w2.cell? ⟨w.heap.size, 0, none⟩ = some (S fp) ∧ w2.cell? ⟨w.heap.size, 1, none⟩ = some (S fd) := fun w2 ho => ⟨(HB1.out.old ho).cellN 0 rfl, (HB1.out.old ho).cellN 1 rfl⟩
      have HD := Lib.hid hd
      clear hd
      by_cases hb : pt.length > 32
      · rw [if_pos hb] at HW
        rw [HW.out]
        go_enter Tryd.func32, Tryd.ntmps32
        go_wp2_with fail
        refine (G1.out _ HM.out).mono ?_
        rintro e w2 ⟨rfl, ho2⟩
        have HO2 := Lib.hid ho2
        obtain ⟨d0, d1⟩ := HD.out w2 ho2
        clear ho2
        go_wp2_with fail
        refine (G2.out _ (H.out.old HO2.out)).mono ?_
        rintro e w3 ⟨rfl, ho3⟩
        have HO3 := Lib.hid (HO2.out.trans ho3)
        obtain ⟨e0, e1⟩ := HD.out w3 HO3.out
        clear ho3
        go_wp2_with fail
        refine (G3.out _ (H.out.old HO3.out)).mono ?_
        rintro e w4 ⟨u, rfl, hown, ho4⟩
        have HO4 := Lib.hid (HO1.out.trans (HO3.out.trans ho4))
        have HOWN := Lib.hid (hown.mono (Nat.le_trans HS.out HO3.out.size))
        obtain ⟨p, cap, rfl⟩ := hown.fl.len
        clear hown ho4
        go_wp2
        go_ret2
        exact ⟨_, rfl, Own.nil _ _, HO4.out⟩
      · rw [if_neg hb] at HW
        rw [HW.out]
        go_enter Tryd.func32, Tryd.ntmps32
        go_wp2_with fail
        refine (G1.out _ HM.out).mono ?_
        rintro e w2 ⟨rfl, ho2⟩
        have HO2 := Lib.hid ho2
        obtain ⟨d0, d1⟩ := HD.out w2 ho2
        clear ho2
        go_wp2_with fail
        refine (G2.out _ (H.out.old HO2.out)).mono ?_
        rintro e w3 ⟨rfl, ho3⟩
        have HO3 := Lib.hid (HO2.out.trans ho3)
        obtain ⟨e0, e1⟩ := HD.out w3 HO3.out
        clear ho3
        go_wp2_with fail
        refine (G3.out _ (H.out.old HO3.out)).mono ?_
        rintro e w4 ⟨u, rfl, hown, ho4⟩
        have HO4 := Lib.hid (HO1.out.trans (HO3.out.trans ho4))
        have HOWN := Lib.hid (hown.mono (Nat.le_trans HS.out HO3.out.size))
        obtain ⟨p, cap, rfl⟩ := hown.fl.len
        clear hown ho4
        go_wp2
        go_ret2
        exact ⟨_, rfl, HOWN.out, HO4.out⟩
  · rw [if_pos he] at HW
    rw [HW.out]
    go_enter Tryd.func32, Tryd.ntmps32
    go_wp2_with ((with_reducible refine (G1.out _ HM.out).mono ?_); rintro e w2 ⟨rfl, ho2⟩)
    go_ret2
    exact ⟨_, rfl, Own.nil _ _, HO1.out.trans ho2⟩
end Go.Proofs.YtcmbmbdjdkldoaaDoor
