/- The law PathsPuts returns true at every list of files and every file: up to a hundred files with one more are the document's, and the list handed in stays. Conditions: the row's own (the listed variables hold what the program's text lays). -/
import Derived.Test.YtcmbmbdjdkldoaaDoorPathsAA
import Derived.Test.YtcmbmbdjdkldoaaDoorLiftF
import Derived.Test.YtcmbmbdjdkldoaaDoorCards
import Derived.Test.YtcmbmbdjdkldoaaDoorTie
namespace Go.Proofs.YtcmbmbdjdkldoaaDoor
open Go.ChangeShapes Go.WideShapes Go.ChangeAt Go.ChangeMaps Go.RowKit

set_option maxHeartbeats 2000000 in
set_option maxRecDepth 100000 in
theorem pathsPuts_walk (w : World) (v : Value) (l : List M.Fi) (hv : Fl w v l) (hl : l.length ≤ maxLen) (_ : ∀ f, f ∈ l → f.1.length ≤ maxLen ∧ f.2.length ≤ maxLen) (f : M.Fi) (hs : f.1.length ≤ maxLen ∧ f.2.length ≤ maxLen) (hm : Mx w) :
    Calls Tryd.prog 6 #[v, fv f] w fun e w' => e = .returned (.bool true) ∧ Old w w' := by
  have G0 := Lib.hid (fun w1 h => few_any v l w1 h hl)
  have G0' := Lib.hid (fun w1 => few_any _ [f] _ (Fl.one w1 f) (by unfold maxLen; simp))
  obtain ⟨w1, ew1, hb1, o0⟩ : ∃ w1, w.alloc (.cells #[S f.1, S f.2] 36) = w1 ∧ Blk w1 w.heap.size #[S f.1, S f.2] 36 ∧ Old w w1 := ⟨_, rfl, Blk.new w _ _, Old.alloc w _⟩
  have H := Lib.hid hv
  have c0 := hb1.cellN 0 rfl
  have c1 := hb1.cellN 1 rfl
  by_cases hfew : M.few l = true
  · obtain ⟨hl3, _, hal⟩ := few_alls hfew
    rw [hfew] at G0
    by_cases hfew2 : M.few [f] = true
    · obtain ⟨_, _, hal2⟩ := few_alls hfew2
      rw [hfew2] at G0'
      have hsf := hal2.2 f (by simp)
      have hl2 := hal.1
      have GA := Lib.hid (fun w1 hm => awake_any w1 hm)
      have HM := Lib.hid hm
      have HD := Lib.hid (show ∀ w2, Old w1 w2 → w2.cell? ⟨w.heap.size, 0, none⟩ = some (S f.1) ∧ w2.cell? ⟨w.heap.size, 1, none⟩ = some (S f.2) from fun w2 ho => ⟨(hb1.old ho).cellN 0 rfl, (hb1.old ho).cellN 1 rfl⟩)
      have HO0 := Lib.hid o0
      have G1 := Lib.hid (fun vo w1 h hm => with_any vo l f w1 h hal hsf hm)
      have G2 := Lib.hid (fun w1 h => rwith_any v l f w1 h hal hsf)
      have GS := Lib.hid (fun v1 v2 w1 h1 h2 => same_self v1 v2 (M.withF l f).1 w1 h1 h2 (Nat.le_trans (withF_len l f) (by decide)))
      have GS1 := Lib.hid (fun v1 v2 w1 h1 h2 => same_self v1 v2 l w1 h1 h2 hl2)
      generalize M.withF l f = x at *
      obtain ⟨x1, x2⟩ := x
      simp only at G1 G2 GS
      clear hm hv hal hfew hl hal2 hfew2 hsf hb1
      obtain ⟨fp, fd⟩ := f
      simp only at *
      have HV0 := Lib.hid (show Own (w1.heap.size + 1) ((w1.alloc (.cells #[S fp, S fd] 36)).alloc (.cells #[] 36)) (.slice (some ⟨w1.heap.size + 1, 0, none⟩) 0 0) [] from by have := Own.void (w1.alloc (.cells #[S fp, S fd] 36)); rwa [World.size_alloc] at this)
      show Calls Tryd.prog 6 #[v, .agg #[.string ⟨⟨fp⟩⟩, .string ⟨⟨fd⟩⟩]] w _
      go_enter Tryd.func6, Tryd.ntmps6
      go_wp2_with (first
        | ((with_reducible refine (G0.out _ (H.out.old o0)).mono ?_); rintro e w0 ⟨rfl, rfl⟩)
        | ((with_reducible refine (G0'.out _).mono ?_); rintro e w0 ⟨rfl, rfl⟩)
        | (at_builtin; refine wpList_append_files rfl _ _ rfl (w1.heap.size + 1) _ [] rfl HV0.out _ l rfl (H.out.old ((HO0.out.trans (Old.alloc w1 _)).trans (Old.alloc _ _))) (by rw [List.length_nil]; omega) (by simp) ?_))
      intro vo wo hown hgrow
      have o1' : Old w1 wo := (Old.alloc w1 _).trans (Old.grownOwn HV0.out (by simp) (Old.alloc _ _) hgrow)
      have HOWN := Lib.hid (show Own (w1.heap.size + 1) wo vo l from by simpa using hown)
      clear hown hgrow
      obtain ⟨d0, d1⟩ := HD.out wo o1'
      have o1 := o0.trans o1'
      go_wp2_with (first
        | ((with_reducible refine (G1.out _ _ HOWN.out.fl (HM.out.old o1)).mono ?_); rintro e w2 ⟨u2, rfl, hu2, o2'⟩; have o2 := o1.trans o2'; obtain ⟨e0, e1⟩ := HD.out w2 (o1'.trans o2'))
        | ((with_reducible refine (G2.out _ (H.out.old o2)).mono ?_); rintro e w3 ⟨u3, rfl, hu3, o3'⟩; have o3 := o2.trans o3')
        | ((with_reducible refine (GS.out u2 u3 _ (hu2.fl.old o3') hu3.fl).mono ?_); rintro e w4 ⟨rfl, n4, rfl⟩; have o4' := (o2'.trans o3').trans (Old.drewN w3 n4); have o4 := o1.trans o4')
        | ((with_reducible refine (GS1.out _ v _ (HOWN.out.fl.old o4') (H.out.old o4)).mono ?_); rintro e w5 ⟨rfl, n5, rfl⟩; have o5 := o3.trans (Old.drewN w3 (n4 + n5)))
        | ((with_reducible refine (GA.out _ (HM.out.old o5)).mono ?_); rintro e wz ⟨rfl, oz⟩))
      go_ret
      exact ⟨rfl, o5.trans oz⟩
    · rw [Bool.not_eq_true] at hfew2
      rw [hfew2] at G0'
      obtain ⟨fp, fd⟩ := f
      simp only at *
      show Calls Tryd.prog 6 #[v, .agg #[.string ⟨⟨fp⟩⟩, .string ⟨⟨fd⟩⟩]] w _
      have GA := Lib.hid (fun w1 hm => awake_any w1 hm)
      have HM := Lib.hid hm
      clear hm
      go_enter Tryd.func6, Tryd.ntmps6
      go_wp2_with (first
        | ((with_reducible refine (G0.out _ (H.out.old o0)).mono ?_); rintro e w0 ⟨rfl, rfl⟩)
        | ((with_reducible refine (G0'.out _).mono ?_); rintro e w0 ⟨rfl, rfl⟩)
        | ((with_reducible refine (GA.out _ (HM.out.old (o0.trans (Old.alloc _ _)))).mono ?_); rintro e w3 ⟨rfl, o3⟩))
      go_ret
      exact ⟨rfl, (o0.trans (Old.alloc _ _)).trans o3⟩
  · rw [Bool.not_eq_true] at hfew
    rw [hfew] at G0
    have GA := Lib.hid (fun w1 hm => awake_any w1 hm)
    have HM := Lib.hid hm
    clear hm
    go_enter Tryd.func6, Tryd.ntmps6
    go_wp2_with (first
      | ((with_reducible refine (G0.out _ (H.out.old o0)).mono ?_); rintro e w0 ⟨rfl, rfl⟩)
      | ((with_reducible refine (GA.out _ (HM.out.old o0)).mono ?_); rintro e w3 ⟨rfl, o3⟩))
    go_ret
    exact ⟨rfl, o0.trans o3⟩

theorem pathsPuts_open {H : Type} {enc : TypeId × Value → H} {Q : Ending → World → Prop} (W : World) (base : Nat) (args : Array Value) (ds : List (DataW H)) (p : List MemPlace) (hsh : W.ShapedOpen Tryd.prog)
    (hval : ∀ (j : Nat) t v, (#[26, 36] : Array TypeId)[j]? = some t → args[j]? = some v → Value.okWide Tryd.prog W .any base t v)
    (hA : DataW.TrodAll enc Tryd.prog W 0 (fun _ => true) true [26, 36] args.toList ds p) (fin : ds.length = 2 → ∀ (e : Ending) (W' : World), e = .returned (.bool true) ∧ Old W W' → Q e W') :
    Calls Tryd.prog 6 args W Q := by
  have f_sh := mx_of hsh
  obtain ⟨v0, v1, d0, d1, p0, p1, rfl, rfl, _, hd0, hd1⟩ := trodAll_two hA
  obtain ⟨l0, hv0, hl0, hs0⟩ := open_files Tryd.underlying26 (hval 0 26 v0 rfl rfl) hd0
  obtain ⟨f1, rfl, hs1⟩ := open_file Tryd.underlying36 rfl rfl rfl rfl file_cells (hval 1 36 v1 rfl rfl) hd1
  exact (pathsPuts_walk W v0 l0 hv0 hl0 hs0 f1 hs1 f_sh).mono (fin rfl)
theorem pathsPuts_params : Tryd.f6.params = #[26, 36] := rfl
theorem pathsPuts_door (os : Os) (args : Array Value) : laidMetH Tryd.prog Rows.pathsPutsRow.laid ((World.laidAll Tryd.prog os Rows.pathsPutsRow.laid).forCall (fun _ _ => 0) ⟨#[], args, []⟩).memory := by
  rw [MakeChecks.laidMetH_plain _ _ _ (by kernel_rfl)]
  exact laidMet_laidAll _ (by kernel_rfl) (by kernel_rfl)
theorem pathsPuts_fn {H : Type} (ds : List (DataW H)) (h : ds.length = 2) : Rows.pathsPutsSpec.fn H ds = { results := [.lit (.bool true)], args := ds } := by
  match ds, h with
  | [_, _], _ => rfl
theorem pathsPuts_reads : ∀ t ∈ Tryd.f6.params.toList, Tryd.prog.readableRec t = true ∧ t < Tryd.prog.types.size := by
  rw [pathsPuts_params]; intro t ht; simp at ht; rcases ht with rfl | rfl <;> exact ⟨by kernel_rfl, of_decide_eq_true (by kernel_rfl)⟩
set_option maxRecDepth 100000 in
theorem pathsPuts_lifted (os : Os) (started : os.Started) (H : Type) (enc : TypeId × Value → H) :
    ReturnsInHanded {} Tryd.checked os 6 .any (fun w args => (Rows.pathsPutsSpec.pre enc Tryd.prog Tryd.f6 [] false w args ∧ laidMetH Tryd.prog Rows.pathsPutsRow.laid w) ∧ sizedMet enc Tryd.prog Tryd.f6 (OpenSpec.ofChange Rows.pathsPutsSpec) false w args)
      (Rows.pathsPutsSpec.post enc Tryd.prog Tryd.f6 false true false false) := by
  refine handed_shaped (X := fun w => laidMetH Tryd.prog Rows.pathsPutsRow.laid w) (fun _ _ hh h => h.of_heap hh) started (by kernel_rfl) Tryd.func6
    (ChangeSpec.witness_shaped (enc := enc) (C := Tryd.checked) (os := os) (X := fun w _ => laidMetH Tryd.prog Rows.pathsPutsRow.laid w) false (World.laidAll Tryd.prog os Rows.pathsPutsRow.laid) #[.slice none 0 0, .agg #[.string ⟨#[]⟩, .string ⟨#[]⟩]] 8 (World.laidAll_os _ _ _) (World.shaped_of_ZipB (by kernel_rfl) (by kernel_rfl)) (by kernel_rfl) (by kernel_rfl) (by kernel_rfl) (pathsPuts_door os _)) ?_
  intro W base args ds gs before hval0 hW hL _
  have hval : ∀ (j : Nat) t v, Tryd.f6.params[j]? = some t → args[j]? = some v → Value.okWide Tryd.prog W .any base t v := hval0
  have hW' := hW
  obtain ⟨p, q, hA0, hV, hbef, hfz, hnd⟩ := hW
  have hA : DataW.TrodAll enc Tryd.prog W 0 (fun _ => true) true Tryd.f6.params.toList args.toList ds p := hA0
  have hgs : gs = [] := by cases gs with | nil => rfl | cons g r => exact absurd hV (by intro h; cases h)
  subst hgs
  have fin : ds.length = 2 → ∀ (e : Ending) (W' : World), e = .returned (.bool true) ∧ Old W W' → ∃ v, e = .returned v ∧ Rows.pathsPutsSpec.post enc Tryd.prog Tryd.f6 false true false false W args v W' := by
    rintro hd e W' ⟨rfl, hb⟩
    exact ⟨_, rfl, law_post hW' rfl pathsPuts_reads rfl (by rw [List.append_nil]; exact pathsPuts_fn ds hd) hb⟩
  rw [pathsPuts_params] at hA hval
  exact pathsPuts_open W base args ds p hL hval hA fin

theorem pathsPuts_holds : Rows.PathsPutsSaid :=
  OpenClaim.holds_of_wide 6 Tryd.f6 rfl rfl rfl rfl rfl rfl rfl ⟨rfl, rfl, rfl, rfl, rfl⟩ rfl rfl rfl rfl rfl (by kernel_rfl) Tryd.func6 (by kernel_rfl)
    (of_decide_eq_true (by kernel_rfl)) (by unfold Func.isWrapper; first | (rw [if_pos (by decide +kernel)]; kernel_rfl) | (rw [if_neg (by decide +kernel)]; exact ⟨rfl, rfl⟩))
    (fun os started H enc _ => pathsPuts_lifted os started H enc)
theorem pathsPuts_card : Rows.PathsPutsCardSaid :=
  Claim7.holds_tied_plain_at .later [] Rows.pathsPutsCard.laidKinds true Rows.pathsPutsCard.stood.harness Rows.pathsPutsCard.stood.looks
    pathsPuts_holds (fun _ h => by cases h) (by kernel_rfl) (fun _ h => by cases h) pathsPuts_row_tie rfl ⟨rfl, rfl⟩ (by kernel_rfl) rfl
    (fun f fn hf hfn => by
      obtain rfl : f = 6 := Option.some.inj ((show Tryd.prog.funcNamed Rows.pathsPutsRow.func = some 6 by kernel_rfl).symm.trans hf) |>.symm
      obtain rfl : fn = Tryd.f6 := (Option.some.inj (Tryd.func6.symm.trans hfn)).symm
      exact ⟨by kernel_rfl, fun j t ht => by
        rw [pathsPuts_params] at ht
        have hm : t ∈ [26, 36] := by simpa using Array.mem_of_getElem? ht
        have hall : ([26, 36].all fun u => !Tryd.prog.wantsStandIn u) = true := by kernel_rfl
        exact (show Tryd.prog.wantsStandIn t = false by simpa using List.all_eq_true.1 hall t hm)⟩)
    (by kernel_rfl)
#print axioms pathsPuts_card
end Go.Proofs.YtcmbmbdjdkldoaaDoor
