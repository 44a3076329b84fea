/- The law PathsGets returns true at every list of files and every path: what the program finds at a path, apart from it and below it, in a copy of up to a hundred files is what the document finds, and the copy stays. Conditions: the row's own (the listed variables hold what the program's text lays). -/
import Derived.Test.YtcmbmbdjdkldoaaDoorPathsAA
import Derived.Test.YtcmbmbdjdkldoaaDoorLiftF
import Derived.Test.YtcmbmbdjdkldoaaDoorCards
import Derived.Test.YtcmbmbdjdkldoaaDoorTie
namespace Go.Proofs.YtcmbmbdjdkldoaaDoor
open Go.ChangeShapes Go.WideShapes Go.ChangeAt Go.ChangeMaps Go.RowKit

set_option maxHeartbeats 2000000 in
set_option maxRecDepth 100000 in
theorem pathsGets_walk (w : World) (v : Value) (l : List M.Fi) (hv : Fl w v l) (hl : l.length ≤ maxLen) (_ : ∀ f, f ∈ l → f.1.length ≤ maxLen ∧ f.2.length ≤ maxLen) (s : ByteArray) (hs : s.size ≤ maxLen) (hm : Mx w) :
    Calls Tryd.prog 5 #[v, .string s] w fun e w' => e = .returned (.bool true) ∧ Old w w' := by
  obtain ⟨⟨s⟩⟩ := s
  have G0 := Lib.hid (few_any v l w hv hl)
  have hsz := size_mk s
  by_cases hfew : M.few l = true
  · obtain ⟨hl3, _, hal⟩ := few_alls hfew
    rw [hfew] at G0
    by_cases hbig : 500 < s.length
    · clear hal
      have GA := Lib.hid (awake_any w hm)
      go_enter Tryd.func5, Tryd.ntmps5
      go_wp2_with (first
        | ((with_reducible refine G0.out.mono ?_); rintro e w0 ⟨rfl, rfl⟩)
        | ((with_reducible refine GA.out.mono ?_); rintro e w3 ⟨rfl, o3⟩))
      go_ret
      exact ⟨rfl, o3⟩
    · have hs2 : s.length ≤ 1099511627776 := by omega
      have hl2 := hal.1
      have GA := Lib.hid (fun w1 hm => awake_any w1 hm)
      have HM := Lib.hid hm
      have H := Lib.hid hv
      have G1 := Lib.hid (fun vo w1 h => get_any vo l s w1 h (by unfold maxLen; omega))
      have G2 := Lib.hid (fun w1 h => rget_any v l s w1 h (by unfold maxLen; omega))
      have G3 := Lib.hid (fun vo w1 h => without_any vo l s w1 h hal hs2)
      have G4 := Lib.hid (fun w1 h => rwithout_any v l s w1 h hal hs2)
      have G5 := Lib.hid (fun vo w1 h => under_any vo l s w1 h hal hs2)
      have G6 := Lib.hid (fun w1 h => runder_any v l s w1 h hal hs2)
      have GS3 := Lib.hid (fun v1 v2 w1 h1 h2 => same_self v1 v2 (M.without l s) w1 h1 h2 (Nat.le_trans (without_len l s) hl2))
      have GS5 := Lib.hid (fun v1 v2 w1 h1 h2 => same_self v1 v2 (M.under l s) w1 h1 h2 (Nat.le_trans (under_len l s) hl2))
      have GS1 := Lib.hid (fun v1 v2 w1 h1 h2 => same_self v1 v2 l w1 h1 h2 hl2)
      generalize M.get l s = x at *
      obtain ⟨x1, x2⟩ := x
      simp only at G1 G2
      generalize M.without l s = xw at *
      generalize M.under l s = xu at *
      clear hm hv hal hfew hl
      go_enter Tryd.func5, Tryd.ntmps5
      go_wp2_with (first
        | ((with_reducible refine G0.out.mono ?_); rintro e w0 ⟨rfl, rfl⟩)
        | (at_builtin; refine wpList_append_files rfl _ _ rfl w.heap.size _ [] rfl (Own.void _) _ l rfl (H.out.old (Old.alloc w _)) (by rw [List.length_nil]; omega) (by rw [World.size_alloc]; omega) ?_))
      intro vo wo hown hgrow
      have o0 : Old w wo := Old.grownOwn (Own.void w) (Nat.le_refl _) (Old.alloc w _) hgrow
      have HOWN := Lib.hid (show Own w.heap.size wo vo l from by simpa using hown)
      clear hown hgrow
      go_wp2_with (first
        | ((with_reducible refine (G1.out _ _ HOWN.out.fl).mono ?_); rintro e w1 ⟨rfl, o1'⟩; have o1 := o0.trans o1')
        | ((with_reducible refine (G2.out _ (H.out.old o1)).mono ?_); rintro e w2 ⟨rfl, hw⟩; obtain rfl := hw.symm)
        | ((with_reducible refine (G3.out _ _ (HOWN.out.fl.old o1')).mono ?_); rintro e w3 ⟨u3, rfl, hu3, o3'⟩; have o3 := o1.trans o3')
        | ((with_reducible refine (G4.out _ (H.out.old o3)).mono ?_); rintro e w4 ⟨u4, rfl, hu4, o4'⟩; have o4 := o3.trans o4')
        | ((with_reducible refine (GS3.out u3 u4 _ (hu3.fl.old o4') hu4.fl).mono ?_); rintro e w5 ⟨rfl, n5, rfl⟩; have o5' := (o1'.trans (o3'.trans o4')).trans (Old.drewN w4 n5); have o5 := o0.trans o5')
        | ((with_reducible refine (G5.out _ _ (HOWN.out.fl.old o5')).mono ?_); rintro e w6 ⟨u6, rfl, hu6, o6'⟩; have o6 := o5.trans o6')
        | ((with_reducible refine (G6.out _ (H.out.old o6)).mono ?_); rintro e w7 ⟨u7, rfl, hu7, o7'⟩; have o7 := o6.trans o7')
        | ((with_reducible refine (GS5.out u6 u7 _ (hu6.fl.old o7') hu7.fl).mono ?_); rintro e w8 ⟨rfl, n8, rfl⟩; have o8' := (o5'.trans (o6'.trans o7')).trans (Old.drewN w7 n8); have o8 := o0.trans o8')
        | ((with_reducible refine (GS1.out _ v _ (HOWN.out.fl.old o8') (H.out.old o8)).mono ?_); rintro e w9 ⟨rfl, n9, rfl⟩; have o9 := (o5.trans (o6'.trans o7')).trans (Old.drewN w7 (n8 + n9)))
        | ((with_reducible refine (GA.out _ (HM.out.old o9)).mono ?_); rintro e wz ⟨rfl, oz⟩))
      go_ret
      exact ⟨rfl, o9.trans oz⟩
  · rw [Bool.not_eq_true] at hfew
    rw [hfew] at G0
    have GA := Lib.hid (awake_any w hm)
    go_enter Tryd.func5, Tryd.ntmps5
    go_wp2_with (first
      | ((with_reducible refine G0.out.mono ?_); rintro e w0 ⟨rfl, rfl⟩)
      | ((with_reducible refine GA.out.mono ?_); rintro e w3 ⟨rfl, o3⟩))
    go_ret
    exact ⟨rfl, o3⟩

theorem pathsGets_open {H : Type} {enc : TypeId × Value → H} {Q : Ending → World → Prop} (W : World) (base : Nat) (args : Array Value) (ds : List (DataW H)) (p : List MemPlace) (hsh : W.ShapedOpen Tryd.prog)
    (hval : ∀ (j : Nat) t v, (#[26, 9] : Array TypeId)[j]? = some t → args[j]? = some v → Value.okWide Tryd.prog W .any base t v)
    (hA : DataW.TrodAll enc Tryd.prog W 0 (fun _ => true) true [26, 9] args.toList ds p) (fin : ds.length = 2 → ∀ (e : Ending) (W' : World), e = .returned (.bool true) ∧ Old W W' → Q e W') :
    Calls Tryd.prog 5 args W Q := by
  have f_sh := mx_of hsh
  obtain ⟨v0, v1, d0, d1, p0, p1, rfl, rfl, _, hd0, hd1⟩ := trodAll_two hA
  obtain ⟨l0, hv0, hl0, hs0⟩ := open_files Tryd.underlying26 (hval 0 26 v0 rfl rfl) hd0
  obtain ⟨s1, rfl, rfl, rfl, hs1⟩ := open_string Tryd.underlying9 (hval 1 9 v1 rfl rfl) hd1
  exact (pathsGets_walk W v0 l0 hv0 hl0 hs0 s1 hs1 f_sh).mono (fin rfl)
theorem pathsGets_params : Tryd.f5.params = #[26, 9] := rfl
theorem pathsGets_door (os : Os) (args : Array Value) : laidMetH Tryd.prog Rows.pathsGetsRow.laid ((World.laidAll Tryd.prog os Rows.pathsGetsRow.laid).forCall (fun _ _ => 0) ⟨#[], args, []⟩).memory := by
  rw [MakeChecks.laidMetH_plain _ _ _ (by kernel_rfl)]
  exact laidMet_laidAll _ (by kernel_rfl) (by kernel_rfl)
theorem pathsGets_fn {H : Type} (ds : List (DataW H)) (h : ds.length = 2) : Rows.pathsGetsSpec.fn H ds = { results := [.lit (.bool true)], args := ds } := by
  match ds, h with
  | [_, _], _ => rfl
theorem pathsGets_reads : ∀ t ∈ Tryd.f5.params.toList, Tryd.prog.readableRec t = true ∧ t < Tryd.prog.types.size := by
  rw [pathsGets_params]; intro t ht; simp at ht; rcases ht with rfl | rfl <;> exact ⟨by kernel_rfl, of_decide_eq_true (by kernel_rfl)⟩
set_option maxRecDepth 100000 in
theorem pathsGets_lifted (os : Os) (started : os.Started) (H : Type) (enc : TypeId × Value → H) :
    ReturnsInHanded {} Tryd.checked os 5 .any (fun w args => (Rows.pathsGetsSpec.pre enc Tryd.prog Tryd.f5 [] false w args ∧ laidMetH Tryd.prog Rows.pathsGetsRow.laid w) ∧ sizedMet enc Tryd.prog Tryd.f5 (OpenSpec.ofChange Rows.pathsGetsSpec) false w args)
      (Rows.pathsGetsSpec.post enc Tryd.prog Tryd.f5 false true false false) := by
  refine handed_shaped (X := fun w => laidMetH Tryd.prog Rows.pathsGetsRow.laid w) (fun _ _ hh h => h.of_heap hh) started (by kernel_rfl) Tryd.func5
    (ChangeSpec.witness_shaped (enc := enc) (C := Tryd.checked) (os := os) (X := fun w _ => laidMetH Tryd.prog Rows.pathsGetsRow.laid w) false (World.laidAll Tryd.prog os Rows.pathsGetsRow.laid) #[.slice none 0 0, .string ⟨#[]⟩] 8 (World.laidAll_os _ _ _) (World.shaped_of_ZipB (by kernel_rfl) (by kernel_rfl)) (by kernel_rfl) (by kernel_rfl) (by kernel_rfl) (pathsGets_door os _)) ?_
  intro W base args ds gs before hval0 hW hL _
  have hval : ∀ (j : Nat) t v, Tryd.f5.params[j]? = some t → args[j]? = some v → Value.okWide Tryd.prog W .any base t v := hval0
  have hW' := hW
  obtain ⟨p, q, hA0, hV, hbef, hfz, hnd⟩ := hW
  have hA : DataW.TrodAll enc Tryd.prog W 0 (fun _ => true) true Tryd.f5.params.toList args.toList ds p := hA0
  have hgs : gs = [] := by cases gs with | nil => rfl | cons g r => exact absurd hV (by intro h; cases h)
  subst hgs
  have fin : ds.length = 2 → ∀ (e : Ending) (W' : World), e = .returned (.bool true) ∧ Old W W' → ∃ v, e = .returned v ∧ Rows.pathsGetsSpec.post enc Tryd.prog Tryd.f5 false true false false W args v W' := by
    rintro hd e W' ⟨rfl, hb⟩
    exact ⟨_, rfl, law_post hW' rfl pathsGets_reads rfl (by rw [List.append_nil]; exact pathsGets_fn ds hd) hb⟩
  rw [pathsGets_params] at hA hval
  exact pathsGets_open W base args ds p hL hval hA fin

theorem pathsGets_holds : Rows.PathsGetsSaid :=
  OpenClaim.holds_of_wide 5 Tryd.f5 rfl rfl rfl rfl rfl rfl rfl ⟨rfl, rfl, rfl, rfl, rfl⟩ rfl rfl rfl rfl rfl (by kernel_rfl) Tryd.func5 (by kernel_rfl)
    (of_decide_eq_true (by kernel_rfl)) (by unfold Func.isWrapper; first | (rw [if_pos (by decide +kernel)]; kernel_rfl) | (rw [if_neg (by decide +kernel)]; exact ⟨rfl, rfl⟩))
    (fun os started H enc _ => pathsGets_lifted os started H enc)
theorem pathsGets_card : Rows.PathsGetsCardSaid :=
  Claim7.holds_tied_plain_at .later [] Rows.pathsGetsCard.laidKinds true Rows.pathsGetsCard.stood.harness Rows.pathsGetsCard.stood.looks
    pathsGets_holds (fun _ h => by cases h) (by kernel_rfl) (fun _ h => by cases h) pathsGets_row_tie rfl ⟨rfl, rfl⟩ (by kernel_rfl) rfl
    (fun f fn hf hfn => by
      obtain rfl : f = 5 := Option.some.inj ((show Tryd.prog.funcNamed Rows.pathsGetsRow.func = some 5 by kernel_rfl).symm.trans hf) |>.symm
      obtain rfl : fn = Tryd.f5 := (Option.some.inj (Tryd.func5.symm.trans hfn)).symm
      exact ⟨by kernel_rfl, fun j t ht => by
        rw [pathsGets_params] at ht
        have hm : t ∈ [26, 9] := by simpa using Array.mem_of_getElem? ht
        have hall : ([26, 9].all fun u => !Tryd.prog.wantsStandIn u) = true := by kernel_rfl
        exact (show Tryd.prog.wantsStandIn t = false by simpa using List.all_eq_true.1 hall t hm)⟩)
    (by kernel_rfl)
#print axioms pathsGets_card
end Go.Proofs.YtcmbmbdjdkldoaaDoor
