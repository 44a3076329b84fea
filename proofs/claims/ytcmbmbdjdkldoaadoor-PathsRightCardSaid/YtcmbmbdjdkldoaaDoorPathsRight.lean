/- The law PathsRight returns true at every list of files, every file and every path: right files stay right, what was put is there, and all else is as it was. Conditions: the row's own (the listed variables hold what the program's text lays). -/
import Derived.Test.YtcmbmbdjdkldoaaDoorPathsAA
import Derived.Test.YtcmbmbdjdkldoaaDoorPathsBB
import Derived.Test.YtcmbmbdjdkldoaaDoorLiftG
import Derived.Test.YtcmbmbdjdkldoaaDoorCards
import Derived.Test.YtcmbmbdjdkldoaaDoorTie
namespace Go.Proofs.YtcmbmbdjdkldoaaDoor
open Go.ChangeShapes Go.WideShapes Go.ChangeAt Go.ChangeMaps Go.RowKit

set_option maxHeartbeats 2000000 in
set_option maxRecDepth 100000 in
theorem pathsRight_walk (w : World) (v : Value) (l : List M.Fi) (hv : Fl w v l) (hl : l.length ≤ maxLen) (_ : ∀ f, f ∈ l → f.1.length ≤ maxLen ∧ f.2.length ≤ maxLen) (f : M.Fi) (hs : f.1.length ≤ maxLen ∧ f.2.length ≤ maxLen) (s : ByteArray) (hs2 : s.size ≤ maxLen) (hm : Mx w) :
    s.size ≤ 4611686018427387904 → Calls Tryd.prog 8 #[v, fv f, .string s] w fun e w' => e = .returned (.bool true) ∧ Old w w' := by
  intro hr
  rename_i hfl
  obtain ⟨⟨s⟩⟩ := s
  have hsz := size_mk s
  rw [hsz] at hr hs2
  obtain ⟨w1, ew1, hb1, o0⟩ : ∃ w1, w.alloc (.cells #[S f.1, S f.2] 36) = w1 ∧ Blk w1 w.heap.size #[S f.1, S f.2] 36 ∧ Old w w1 := ⟨_, rfl, Blk.new w _ _, Old.alloc w _⟩
  have G0 := Lib.hid (check_wide v l w1 (hv.old o0) hl hfl (hm.old o0))
  have GA := Lib.hid (fun w1 hm => awake_any w1 hm)
  have HM := Lib.hid hm
  have H := Lib.hid hv
  obtain ⟨p, cap, rfl⟩ := hv.len
  by_cases hck : M.check l = 0
  · have hV := valid_iff.1 hck
    have hal := hV.alls
    have hl32 := hV.few
    rw [hck] at G0
    have HD := Lib.hid (show ∀ w2, Old w1 w2 → w2.cell? ⟨w.heap.size, 0, none⟩ = some (S f.1) ∧ w2.cell? ⟨w.heap.size, 1, none⟩ = some (S f.2) from fun w2 ho => ⟨(hb1.old ho).cellN 0 rfl, (hb1.old ho).cellN 1 rfl⟩)
    have HO0 := Lib.hid o0
    have G1 := Lib.hid (fun w1 (h : Fl w1 (.slice p l.length cap) l) hm => with_wide _ l f w1 h hal hs hm)
    have G5 := Lib.hid (fun w1 (h : Fl w1 (.slice p l.length cap) l) => under_wide _ l s w1 h hal hr)
    have G6 := Lib.hid (fun w1 hm => path_any s hs2 w1 hm)
    have GS := Lib.hid (fun v1 v2 w1 h1 h2 => same_self v1 v2 l w1 h1 h2 hal.1)
    have HT := Lib.hid (show M.path s = 0 → (∀ w1, Fl w1 (.slice p l.length cap) l → Calls Tryd.prog 28 #[.slice p l.length cap, S s] w1 fun e w' => ∃ u, e = .returned u ∧ Own w1.heap.size w' u (M.without l s) ∧ Old w1 w') ∧
        (∀ u w1, Fl w1 u (M.without l s) → Mx w1 → Calls Tryd.prog 23 #[u] w1 fun e w' => e = .returned (.int .i64 0) ∧ Old w1 w') ∧
        (∀ u w1, Fl w1 u (M.under l s) → Mx w1 → Calls Tryd.prog 23 #[u] w1 fun e w' => e = .returned (.int .i64 0) ∧ Old w1 w') ∧
        (∀ w1, Fl w1 (.slice p l.length cap) l → Mx w1 → Calls Tryd.prog 34 #[.slice p l.length cap, S s] w1 fun e w' => ∃ u, e = .returned (.tuple #[u, .int .i64 (M.into l s).2]) ∧ Own w1.heap.size w' u (M.into l s).1 ∧ Old w1 w') ∧
        ((M.into l s).2 = 0 → (∀ u w1, Fl w1 u (M.into l s).1 → Mx w1 → Calls Tryd.prog 23 #[u] w1 fun e w' => e = .returned (.int .i64 0) ∧ Old w1 w') ∧
          (∀ u w1, Fl w1 u (M.into l s).1 → Calls Tryd.prog 30 #[u, S s] w1 fun e w' => ∃ o, e = .returned o ∧ Own w1.heap.size w' o l ∧ Old w1 w')) from fun hp => by
      have hp48 := (path_ok.1 hp).1
      refine ⟨fun w1 h => without_any _ l s w1 h hal (by omega), fun u w1 h hm => ?_, fun u w1 h hm => ?_, fun w1 h hm => into_any _ l s w1 h hal (by omega) hm, fun hi => ⟨fun u w1 h hm => ?_, fun u w1 h => ?_⟩⟩
      · have := check_any u _ w1 h (hV.without s).alls hm
        rwa [valid_iff.2 (hV.without s)] at this
      · have := check_any u _ w1 h (hV.under s).alls hm
        rwa [valid_iff.2 (hV.under s)] at this
      · have := check_any u _ w1 h (hV.into hi).alls hm
        rwa [valid_iff.2 (hV.into hi)] at this
      · have := under_any u _ s w1 h (hV.into hi).alls (by omega)
        rwa [under_into hV hi] at this)
    by_cases he : (M.withF l f).2 = 0
    · obtain ⟨hVg, hg1, hg2⟩ := hV.withF he
      rw [he] at G1
      have G2 := Lib.hid (fun u w1 h => get_any u (M.withF l f).1 f.1 w1 h (by have := hVg.few; unfold maxLen; omega))
      rw [hg1] at G2
      have G3 := Lib.hid (fun u w1 h hm => check_any u (M.withF l f).1 w1 h hVg.alls hm)
      rw [valid_iff.2 hVg] at G3
      have G4 := Lib.hid (fun u x w1 h => get_any u (M.withF l f).1 x w1 h (by have := hVg.few; unfold maxLen; omega))
      have HG := Lib.hid hg2
      clear hm hv hal hl hs hb1 hV hVg hg1 hg2 hck he hfl
      generalize M.withF l f = x at *
      obtain ⟨x, xe⟩ := x
      simp only at G1 G2 G3 G4 HG
      obtain ⟨fp, fd⟩ := f
      simp only at *
      show Calls Tryd.prog 8 #[.slice p l.length cap, .agg #[.string ⟨⟨fp⟩⟩, .string ⟨⟨fd⟩⟩], .string ⟨⟨s⟩⟩] w _
      go_enter Tryd.func8, Tryd.ntmps8
      go_wp2_with (first
        | ((with_reducible refine G0.out.mono ?_); rintro e b1 ⟨rfl, r1⟩; have k1 := HO0.out.trans r1; obtain ⟨d0, d1⟩ := HD.out b1 r1)
        | ((with_reducible refine (G1.out _ (H.out.old k1) (HM.out.old k1)).mono ?_); rintro e b2 ⟨u, rfl, hu, r2⟩; have k2 := k1.trans r2; obtain ⟨e0, e1⟩ := HD.out b2 (r1.trans r2))
        | ((with_reducible refine (G2.out u _ hu.fl).mono ?_); rintro e b3 ⟨rfl, r3⟩; have k3 := k2.trans r3)
        | ((with_reducible refine (G3.out u _ (hu.fl.old r3) (HM.out.old k3)).mono ?_); rintro e b4 ⟨rfl, r4⟩; have k4 := k3.trans r4; have kk := r1.trans (r2.trans (r3.trans r4)); obtain ⟨f0, f1⟩ := HD.out b4 kk))
      have HU := Lib.hid (hu.fl.old (r3.trans r4))
      have HK := Lib.hid k4
      have HKK := Lib.hid kk
      clear k1 k2 k3 k4 kk r1 r2 r3 r4 hu d0 d1 e0 e1 f0 f1
      go_loopw [11, 12, 13] (fun i _ _ wr => ∃ k : Nat, k ≤ l.length ∧ i = .int .i64 k ∧ Old b4 wr) (fun i _ _ _ => l.length - (intOf i).toNat)
      case atStart => exact ⟨0, Nat.zero_le _, rfl, Below.refl _ _⟩
      case round =>
        obtain ⟨k, hk, rfl, ho⟩ := hrel
        have HO := Lib.hid ho
        clear ho
        by_cases hlt : k < l.length
        · obtain ⟨b, off, rfl, hb, hc⟩ := (H.out.old (HK.out.trans HO.out)).at (by intro h; rw [h] at hlt; exact absurd hlt (Nat.not_lt_zero _))
          obtain ⟨hc0, hc1⟩ := hc k hlt
          have HGK := Lib.hid (HG.out _ (List.getElem_mem hlt))
          clear hc
          generalize l[k] = y at *
          obtain ⟨yp, yd⟩ := y
          simp only at *
          have G4' := Lib.hid (G4.out u yp wr (HU.out.old HO.out))
          have HB := Lib.hid hb
          have HC0 := Lib.hid hc0
          have HC1 := Lib.hid hc1
          clear hb hc1
          have i1 : (0 : Int) ≤ (k : Int) := by omega
          have i2 : (k : Int) < (l.length : Int) := by omega
          have i3 : ((k : Int)).toNat = k := by omega
          by_cases hyf : yp = fp
          · have e1 : (yp == fp) = true := by rw [beq_list, decide_eq_true hyf]
            have e2 : decide (yp = fp) = true := decide_eq_true hyf
            clear hyf HGK
            generalize M.get x yp = r at *
            obtain ⟨r1, r2⟩ := r
            simp only at G4'
            go_upto_region 12 with ((with_reducible refine G4'.out.mono ?_); rintro e c3 ⟨rfl, r3⟩; have z1 := HD.out c3 (HKK.out.trans (HO.out.trans r3)); obtain ⟨d0, d1⟩ := z1; have z0 := (r3.cell (p := ⟨b, off + k * 2, none⟩) HB.out).trans HC0.out)
            go_quiet (fail)
            go_wp2
            go_roundw
            case rel => exact ⟨k + 1, by omega, by go_num, HO.out.trans (r3.trans (Old.drewN c3 _))⟩
            case measure => simp [intOf]; omega
          · have e1 : (yp == fp) = false := by rw [beq_list, decide_eq_false hyf]
            have e2 : decide (yp = fp) = false := decide_eq_false hyf
            rw [HGK.out hyf] at G4'
            clear hyf HGK
            simp only at G4'
            go_upto_region 12 with ((with_reducible refine G4'.out.mono ?_); rintro e c3 ⟨rfl, r3⟩; have z1 := HD.out c3 (HKK.out.trans (HO.out.trans r3)); obtain ⟨d0, d1⟩ := z1; have z0 := (r3.cell (p := ⟨b, off + k * 2, none⟩) HB.out).trans HC0.out; have z2 := (r3.cell (p := ⟨b, off + k * 2 + 1, none⟩) HB.out).trans HC1.out)
            go_quiet (fail)
            go_wp2
            go_roundw
            case rel => exact ⟨k + 1, by omega, by go_num, HO.out.trans (r3.trans (Old.drewN c3 _))⟩
            case measure => simp [intOf]; omega
        · obtain rfl : k = l.length := by omega
          have tt := HK.out.trans HO.out
          obtain hp | hp : M.path s = 0 ∨ M.path s = 13 := by unfold M.path; split <;> simp
          · rw [hp] at G6
            obtain ⟨G7, G8, G9, G10, GI⟩ := HT.out hp
            have G7 := Lib.hid G7
            have G8 := Lib.hid G8
            have G9 := Lib.hid G9
            have G10 := Lib.hid G10
            by_cases hi : (M.into l s).2 = 0
            · obtain ⟨G11, G12⟩ := GI hi
              have G11 := Lib.hid G11
              have G12 := Lib.hid G12
              clear GI hp HT
              rw [hi] at G10
              clear hi
              generalize M.into l s = xi at *
              obtain ⟨xi, xe⟩ := xi
              simp only at G10 G11 G12
              generalize M.under l s = xu at *
              generalize M.without l s = xw at *
              go_wp2_with (first
                | ((with_reducible refine (G5.out _ (H.out.old tt)).mono ?_); rintro e a1 ⟨u5, rfl, hu5, p1⟩; have q1 := Old.trans tt p1)
                | ((with_reducible refine (G6.out _ (HM.out.old q1)).mono ?_); rintro e a2 ⟨rfl, p2⟩; have q2 := q1.trans p2)
                | ((with_reducible refine (G7.out _ (H.out.old q2)).mono ?_); rintro e a3 ⟨u7, rfl, hu7, p3⟩; have q3 := q2.trans p3)
                | ((with_reducible refine (G8.out u7 _ hu7.fl (HM.out.old q3)).mono ?_); rintro e a4 ⟨rfl, p4⟩; have q4 := q3.trans p4)
                | ((with_reducible refine (G9.out u5 _ (hu5.fl.old (p2.trans (p3.trans p4))) (HM.out.old q4)).mono ?_); rintro e a5 ⟨rfl, p5⟩; have q5 := q4.trans p5)
                | ((with_reducible refine (G10.out _ (H.out.old q5) (HM.out.old q5)).mono ?_); rintro e a6 ⟨u10, rfl, hu10, p6⟩; have q6 := q5.trans p6)
                | ((with_reducible refine (G11.out u10 _ hu10.fl (HM.out.old q6)).mono ?_); rintro e a7 ⟨rfl, p7⟩; have q7 := q6.trans p7)
                | ((with_reducible refine (G12.out u10 _ (hu10.fl.old p7)).mono ?_); rintro e a8 ⟨u12, rfl, hu12, p8⟩; have q8 := q7.trans p8)
                | ((with_reducible refine (GS.out u12 (.slice p l.length cap) _ hu12.fl (H.out.old q8)).mono ?_); rintro e a9 ⟨rfl, n9, rfl⟩; have q9 := q8.trans (Old.drewN a8 n9))
                | ((with_reducible refine (GA.out _ (HM.out.old q9)).mono ?_); rintro e wz ⟨rfl, oz⟩))
              go_ret
              exact ⟨rfl, q9.trans oz⟩
            · have he := into_no hi
              rw [he] at G10
              simp only at G10
              clear GI hp hi he HT
              generalize M.under l s = xu at *
              generalize M.without l s = xw at *
              go_wp2_with (first
                | ((with_reducible refine (G5.out _ (H.out.old tt)).mono ?_); rintro e a1 ⟨u5, rfl, hu5, p1⟩; have q1 := Old.trans tt p1)
                | ((with_reducible refine (G6.out _ (HM.out.old q1)).mono ?_); rintro e a2 ⟨rfl, p2⟩; have q2 := q1.trans p2)
                | ((with_reducible refine (G7.out _ (H.out.old q2)).mono ?_); rintro e a3 ⟨u7, rfl, hu7, p3⟩; have q3 := q2.trans p3)
                | ((with_reducible refine (G8.out u7 _ hu7.fl (HM.out.old q3)).mono ?_); rintro e a4 ⟨rfl, p4⟩; have q4 := q3.trans p4)
                | ((with_reducible refine (G9.out u5 _ (hu5.fl.old (p2.trans (p3.trans p4))) (HM.out.old q4)).mono ?_); rintro e a5 ⟨rfl, p5⟩; have q5 := q4.trans p5)
                | ((with_reducible refine (G10.out _ (H.out.old q5) (HM.out.old q5)).mono ?_); rintro e a6 ⟨u10, rfl, hu10, p6⟩; obtain ⟨p10, cap10, rfl⟩ := hu10.fl.len; have q6 := q5.trans p6)
                | ((with_reducible refine (GA.out _ (HM.out.old q6)).mono ?_); rintro e wz ⟨rfl, oz⟩))
              go_ret
              exact ⟨rfl, q6.trans oz⟩
          · rw [hp] at G6
            clear hp HT
            generalize M.under l s = xu at *
            go_wp2_with (first
              | ((with_reducible refine (G5.out _ (H.out.old tt)).mono ?_); rintro e a1 ⟨u5, rfl, hu5, p1⟩; have q1 := Old.trans tt p1)
              | ((with_reducible refine (G6.out _ (HM.out.old q1)).mono ?_); rintro e a2 ⟨rfl, p2⟩; have q2 := q1.trans p2)
              | ((with_reducible refine (GA.out _ (HM.out.old q2)).mono ?_); rintro e wz ⟨rfl, oz⟩))
            go_ret
            exact ⟨rfl, q2.trans oz⟩
    · obtain ⟨hno⟩ : Nonempty ((M.withF l f).2 = 13 ∨ (M.withF l f).2 = 15 ∨ (M.withF l f).2 = 16) := ⟨withF_no he⟩
      clear hm hv hal hl hs hb1 hV hck he hfl
      generalize M.withF l f = x at *
      obtain ⟨x, xe⟩ := x
      simp only at G1 hno
      obtain ⟨fp, fd⟩ := f
      simp only at *
      show Calls Tryd.prog 8 #[.slice p l.length cap, .agg #[.string ⟨⟨fp⟩⟩, .string ⟨⟨fd⟩⟩], .string ⟨⟨s⟩⟩] w _
      rcases hno with rfl | rfl | rfl
      all_goals
        go_enter Tryd.func8, Tryd.ntmps8
        go_upto_region 16 with (first
          | ((with_reducible refine G0.out.mono ?_); rintro e b1 ⟨rfl, r1⟩; have k1 := HO0.out.trans r1; obtain ⟨d0, d1⟩ := HD.out b1 r1)
          | ((with_reducible refine (G1.out _ (H.out.old k1) (HM.out.old k1)).mono ?_); rintro e b2 ⟨u, rfl, hu, r2⟩; have k2 := k1.trans r2))
        clear k1 r1 r2 d0 d1 hu
        obtain hp | hp : M.path s = 0 ∨ M.path s = 13 := by unfold M.path; split <;> simp
        · rw [hp] at G6
          obtain ⟨G7, G8, G9, G10, GI⟩ := HT.out hp
          have G7 := Lib.hid G7
          have G8 := Lib.hid G8
          have G9 := Lib.hid G9
          have G10 := Lib.hid G10
          by_cases hi : (M.into l s).2 = 0
          · obtain ⟨G11, G12⟩ := GI hi
            have G11 := Lib.hid G11
            have G12 := Lib.hid G12
            clear GI hp HT
            rw [hi] at G10
            clear hi
            generalize M.into l s = xi at *
            obtain ⟨xi, xe⟩ := xi
            simp only at G10 G11 G12
            generalize M.under l s = xu at *
            generalize M.without l s = xw at *
            go_wp2_with (first
              | ((with_reducible refine (G5.out _ (H.out.old k2)).mono ?_); rintro e a1 ⟨u5, rfl, hu5, p1⟩; have q1 := Old.trans k2 p1)
              | ((with_reducible refine (G6.out _ (HM.out.old q1)).mono ?_); rintro e a2 ⟨rfl, p2⟩; have q2 := q1.trans p2)
              | ((with_reducible refine (G7.out _ (H.out.old q2)).mono ?_); rintro e a3 ⟨u7, rfl, hu7, p3⟩; have q3 := q2.trans p3)
              | ((with_reducible refine (G8.out u7 _ hu7.fl (HM.out.old q3)).mono ?_); rintro e a4 ⟨rfl, p4⟩; have q4 := q3.trans p4)
              | ((with_reducible refine (G9.out u5 _ (hu5.fl.old (p2.trans (p3.trans p4))) (HM.out.old q4)).mono ?_); rintro e a5 ⟨rfl, p5⟩; have q5 := q4.trans p5)
              | ((with_reducible refine (G10.out _ (H.out.old q5) (HM.out.old q5)).mono ?_); rintro e a6 ⟨u10, rfl, hu10, p6⟩; have q6 := q5.trans p6)
              | ((with_reducible refine (G11.out u10 _ hu10.fl (HM.out.old q6)).mono ?_); rintro e a7 ⟨rfl, p7⟩; have q7 := q6.trans p7)
              | ((with_reducible refine (G12.out u10 _ (hu10.fl.old p7)).mono ?_); rintro e a8 ⟨u12, rfl, hu12, p8⟩; have q8 := q7.trans p8)
              | ((with_reducible refine (GS.out u12 (.slice p l.length cap) _ hu12.fl (H.out.old q8)).mono ?_); rintro e a9 ⟨rfl, n9, rfl⟩; have q9 := q8.trans (Old.drewN a8 n9))
              | ((with_reducible refine (GA.out _ (HM.out.old q9)).mono ?_); rintro e wz ⟨rfl, oz⟩))
            go_ret
            exact ⟨rfl, q9.trans oz⟩
          · have he := into_no hi
            rw [he] at G10
            simp only at G10
            clear GI hp hi he HT
            generalize M.under l s = xu at *
            generalize M.without l s = xw at *
            go_wp2_with (first
              | ((with_reducible refine (G5.out _ (H.out.old k2)).mono ?_); rintro e a1 ⟨u5, rfl, hu5, p1⟩; have q1 := Old.trans k2 p1)
              | ((with_reducible refine (G6.out _ (HM.out.old q1)).mono ?_); rintro e a2 ⟨rfl, p2⟩; have q2 := q1.trans p2)
              | ((with_reducible refine (G7.out _ (H.out.old q2)).mono ?_); rintro e a3 ⟨u7, rfl, hu7, p3⟩; have q3 := q2.trans p3)
              | ((with_reducible refine (G8.out u7 _ hu7.fl (HM.out.old q3)).mono ?_); rintro e a4 ⟨rfl, p4⟩; have q4 := q3.trans p4)
              | ((with_reducible refine (G9.out u5 _ (hu5.fl.old (p2.trans (p3.trans p4))) (HM.out.old q4)).mono ?_); rintro e a5 ⟨rfl, p5⟩; have q5 := q4.trans p5)
              | ((with_reducible refine (G10.out _ (H.out.old q5) (HM.out.old q5)).mono ?_); rintro e a6 ⟨u10, rfl, hu10, p6⟩; obtain ⟨p10, cap10, rfl⟩ := hu10.fl.len; have q6 := q5.trans p6)
              | ((with_reducible refine (GA.out _ (HM.out.old q6)).mono ?_); rintro e wz ⟨rfl, oz⟩))
            go_ret
            exact ⟨rfl, q6.trans oz⟩
        · rw [hp] at G6
          clear hp HT
          generalize M.under l s = xu at *
          go_wp2_with (first
            | ((with_reducible refine (G5.out _ (H.out.old k2)).mono ?_); rintro e a1 ⟨u5, rfl, hu5, p1⟩; have q1 := Old.trans k2 p1)
            | ((with_reducible refine (G6.out _ (HM.out.old q1)).mono ?_); rintro e a2 ⟨rfl, p2⟩; have q2 := q1.trans p2)
            | ((with_reducible refine (GA.out _ (HM.out.old q2)).mono ?_); rintro e wz ⟨rfl, oz⟩))
          go_ret
          exact ⟨rfl, q2.trans oz⟩
  · have hne : ∀ x : Int, x = M.check l → x ≠ 0 := fun x e => by rw [e]; exact hck
    have HO0 := Lib.hid o0
    clear hm hv hl hs hb1 hfl hck
    generalize M.check l = x at *
    have hx := hne x rfl
    clear hne
    obtain ⟨fp, fd⟩ := f
    simp only at *
    show Calls Tryd.prog 8 #[.slice p l.length cap, .agg #[.string ⟨⟨fp⟩⟩, .string ⟨⟨fd⟩⟩], .string ⟨⟨s⟩⟩] w _
    go_enter Tryd.func8, Tryd.ntmps8
    go_wp2_with (first
      | ((with_reducible refine G0.out.mono ?_); rintro e b1 ⟨rfl, r1⟩; have k1 := HO0.out.trans r1)
      | ((with_reducible refine (GA.out _ (HM.out.old k1)).mono ?_); rintro e wz ⟨rfl, oz⟩))
    go_ret
    exact ⟨rfl, k1.trans oz⟩

theorem pathsRight_open {H : Type} {enc : TypeId × Value → H} {Q : Ending → World → Prop} (W : World) (base : Nat) (args : Array Value) (ds : List (DataW H)) (p : List MemPlace) (hsh : W.ShapedOpen Tryd.prog)
    (hval : ∀ (j : Nat) t v, (#[26, 36, 9] : Array TypeId)[j]? = some t → args[j]? = some v → Value.okWide Tryd.prog W .any base t v)
    (hA : DataW.TrodAll enc Tryd.prog W 0 (fun _ => true) true [26, 36, 9] args.toList ds p) (hR : ∀ n, n ∈ DataW.weightsEach Tryd.prog [26, 36, 9] ds → n ≤ reachBytes) (fin : ds.length = 3 → ∀ (e : Ending) (W' : World), e = .returned (.bool true) ∧ Old W W' → Q e W') :
    Calls Tryd.prog 8 args W Q := by
  have f_sh := mx_of hsh
  obtain ⟨v0, v1, v2, d0, d1, d2, p0, p1, p2, rfl, rfl, _, hd0, hd1, hd2⟩ := trodAll_three hA
  obtain ⟨l0, hv0, hl0, hs0⟩ := open_files Tryd.underlying26 (hval 0 26 v0 rfl rfl) hd0
  obtain ⟨f1, rfl, hs1⟩ := open_file Tryd.underlying36 rfl rfl rfl rfl file_cells (hval 1 36 v1 rfl rfl) hd1
  obtain ⟨s2, rfl, rfl, rfl, hs2⟩ := open_string Tryd.underlying9 (hval 2 9 v2 rfl rfl) hd2
  exact (pathsRight_walk W v0 l0 hv0 hl0 hs0 f1 hs1 s2 hs2 f_sh (by have h := hR _ reach_third; unfold reachBytes at h; simp at h; omega)).mono (fin rfl)
theorem pathsRight_params : Tryd.f8.params = #[26, 36, 9] := rfl
theorem pathsRight_door (os : Os) (args : Array Value) : laidMetH Tryd.prog Rows.pathsRightRow.laid ((World.laidAll Tryd.prog os Rows.pathsRightRow.laid).forCall (fun _ _ => 0) ⟨#[], args, []⟩).memory := by
  rw [MakeChecks.laidMetH_plain _ _ _ (by kernel_rfl)]
  exact laidMet_laidAll _ (by kernel_rfl) (by kernel_rfl)
theorem pathsRight_fn {H : Type} (ds : List (DataW H)) (h : ds.length = 3) : Rows.pathsRightSpec.fn H ds = { results := [.lit (.bool true)], args := ds } := by
  match ds, h with
  | [_, _, _], _ => rfl
theorem pathsRight_reads : ∀ t ∈ Tryd.f8.params.toList, Tryd.prog.readableRec t = true ∧ t < Tryd.prog.types.size := by
  rw [pathsRight_params]; intro t ht; simp at ht; rcases ht with rfl | rfl | rfl <;> exact ⟨by kernel_rfl, of_decide_eq_true (by kernel_rfl)⟩
set_option maxRecDepth 100000 in
theorem pathsRight_lifted (os : Os) (started : os.Started) (H : Type) (enc : TypeId × Value → H) :
    ReturnsInHanded {} Tryd.checked os 8 .any (fun w args => (Rows.pathsRightSpec.pre enc Tryd.prog Tryd.f8 [] false w args ∧ laidMetH Tryd.prog Rows.pathsRightRow.laid w) ∧ sizedMet enc Tryd.prog Tryd.f8 (OpenSpec.ofChange Rows.pathsRightSpec) false w args)
      (Rows.pathsRightSpec.post enc Tryd.prog Tryd.f8 false true false false) := by
  refine handed_reach (X := fun w => laidMetH Tryd.prog Rows.pathsRightRow.laid w) (fun _ _ hh h => h.of_heap hh) started (by kernel_rfl) Tryd.func8
    (ChangeSpec.witness_shaped (enc := enc) (C := Tryd.checked) (os := os) (X := fun w _ => laidMetH Tryd.prog Rows.pathsRightRow.laid w) false (World.laidAll Tryd.prog os Rows.pathsRightRow.laid) #[.slice none 0 0, .agg #[.string ⟨#[]⟩, .string ⟨#[]⟩], .string ⟨#[]⟩] 8 (World.laidAll_os _ _ _) (World.shaped_of_ZipB (by kernel_rfl) (by kernel_rfl)) (by kernel_rfl) (by kernel_rfl) (by kernel_rfl) (pathsRight_door os _)) ?_
  intro W base args ds gs before hval0 hW hL _ hR0
  have hval : ∀ (j : Nat) t v, Tryd.f8.params[j]? = some t → args[j]? = some v → Value.okWide Tryd.prog W .any base t v := hval0
  have hW' := hW
  obtain ⟨p, q, hA0, hV, hbef, hfz, hnd⟩ := hW
  have hA : DataW.TrodAll enc Tryd.prog W 0 (fun _ => true) true Tryd.f8.params.toList args.toList ds p := hA0
  have hgs : gs = [] := by cases gs with | nil => rfl | cons g r => exact absurd hV (by intro h; cases h)
  subst hgs
  have fin : ds.length = 3 → ∀ (e : Ending) (W' : World), e = .returned (.bool true) ∧ Old W W' → ∃ v, e = .returned v ∧ Rows.pathsRightSpec.post enc Tryd.prog Tryd.f8 false true false false W args v W' := by
    rintro hd e W' ⟨rfl, hb⟩
    exact ⟨_, rfl, law_post hW' rfl pathsRight_reads rfl (by rw [List.append_nil]; exact pathsRight_fn ds hd) hb⟩
  rw [pathsRight_params] at hA hval
  have hR : ∀ n, n ∈ DataW.weightsEach Tryd.prog [26, 36, 9] ds → n ≤ reachBytes := fun n hn => by simpa using List.all_eq_true.1 hR0 n (each_more _ _ _ _ hn)
  exact pathsRight_open W base args ds p hL hval hA hR fin

theorem pathsRight_holds : Rows.PathsRightSaid :=
  OpenClaim.holds_of_wide 8 Tryd.f8 rfl rfl rfl rfl rfl rfl rfl ⟨rfl, rfl, rfl, rfl, rfl⟩ rfl rfl rfl rfl rfl (by kernel_rfl) Tryd.func8 (by kernel_rfl)
    (of_decide_eq_true (by kernel_rfl)) (by unfold Func.isWrapper; first | (rw [if_pos (by decide +kernel)]; kernel_rfl) | (rw [if_neg (by decide +kernel)]; exact ⟨rfl, rfl⟩))
    (fun os started H enc _ => pathsRight_lifted os started H enc)
theorem pathsRight_card : Rows.PathsRightCardSaid :=
  Claim7.holds_tied_plain_at .later [] Rows.pathsRightCard.laidKinds true Rows.pathsRightCard.stood.harness Rows.pathsRightCard.stood.looks
    pathsRight_holds (fun _ h => by cases h) (by kernel_rfl) (fun _ h => by cases h) pathsRight_row_tie rfl ⟨rfl, rfl⟩ (by kernel_rfl) rfl
    (fun f fn hf hfn => by
      obtain rfl : f = 8 := Option.some.inj ((show Tryd.prog.funcNamed Rows.pathsRightRow.func = some 8 by kernel_rfl).symm.trans hf) |>.symm
      obtain rfl : fn = Tryd.f8 := (Option.some.inj (Tryd.func8.symm.trans hfn)).symm
      exact ⟨by kernel_rfl, fun j t ht => by
        rw [pathsRight_params] at ht
        have hm : t ∈ [26, 36, 9] := by simpa using Array.mem_of_getElem? ht
        have hall : ([26, 36, 9].all fun u => !Tryd.prog.wantsStandIn u) = true := by kernel_rfl
        exact (show Tryd.prog.wantsStandIn t = false by simpa using List.all_eq_true.1 hall t hm)⟩)
    (by kernel_rfl)
#print axioms pathsRight_card
end Go.Proofs.YtcmbmbdjdkldoaaDoor
