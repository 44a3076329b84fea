/- The law PathsCheck returns true at every list of files: what the program finds wrong with up to a hundred files is what the document finds, and the chapter's examples hold. Conditions: the row's own (the listed variables hold what the program's text lays). -/
import Derived.Test.YtcmbmbdjdkldoaaDoorPathsZ
import Derived.Test.YtcmbmbdjdkldoaaDoorLiftF
import Derived.Test.YtcmbmbdjdkldoaaDoorCards
import Derived.Test.YtcmbmbdjdkldoaaDoorTie
namespace Go.Proofs.YtcmbmbdjdkldoaaDoor
open Go.ChangeShapes Go.WideShapes Go.ChangeAt Go.ChangeMaps Go.RowKit

set_option maxHeartbeats 2000000 in
set_option maxRecDepth 100000 in
theorem pathsCheck_walk (w : World) (v : Value) (l : List M.Fi) (hv : Fl w v l) (hl : l.length ≤ maxLen) (_ : ∀ f, f ∈ l → f.1.length ≤ maxLen ∧ f.2.length ≤ maxLen) (hm : Mx w) :
    Calls Tryd.prog 4 #[v] w fun e w' => e = .returned (.bool true) ∧ Old w w' := by
  have G0 := Lib.hid (few_any v l w hv hl)
  by_cases hfew : M.few l = true
  · obtain ⟨_, _, hal⟩ := few_alls hfew
    rw [hfew] at G0
    have G1 := Lib.hid (check_any v l w hv hal hm)
    have G2 := Lib.hid (fun w1 h => rcheck_any v l w1 h hal)
    have GA := Lib.hid (fun w1 hm => awake_any w1 hm)
    have HM := Lib.hid hm
    have H := Lib.hid hv
    clear hm hv hal hfew
    generalize M.check l = x at *
    go_enter Tryd.func4, Tryd.ntmps4
    go_wp2_with (first
      | ((with_reducible refine G0.out.mono ?_); rintro e w0 ⟨rfl, rfl⟩)
      | ((with_reducible refine G1.out.mono ?_); rintro e w1 ⟨rfl, o1⟩)
      | ((with_reducible refine (G2.out _ (H.out.old o1)).mono ?_); rintro e w2 ⟨rfl, n2, rfl⟩; have o2 := o1.trans (Old.drewN w1 n2))
      | ((with_reducible refine (GA.out _ (HM.out.old o2)).mono ?_); rintro e w3 ⟨rfl, o3⟩))
    go_ret
    exact ⟨rfl, o2.trans o3⟩
  · rw [Bool.not_eq_true] at hfew
    rw [hfew] at G0
    have GA := Lib.hid (awake_any w hm)
    go_enter Tryd.func4, Tryd.ntmps4
    go_wp2_with (first
      | ((with_reducible refine G0.out.mono ?_); rintro e w0 ⟨rfl, rfl⟩)
      | ((with_reducible refine GA.out.mono ?_); rintro e w3 ⟨rfl, o3⟩))
    go_ret
    exact ⟨rfl, o3⟩

theorem pathsCheck_open {H : Type} {enc : TypeId × Value → H} {Q : Ending → World → Prop} (W : World) (base : Nat) (args : Array Value) (ds : List (DataW H)) (p : List MemPlace) (hsh : W.ShapedOpen Tryd.prog)
    (hval : ∀ (j : Nat) t v, (#[26] : Array TypeId)[j]? = some t → args[j]? = some v → Value.okWide Tryd.prog W .any base t v)
    (hA : DataW.TrodAll enc Tryd.prog W 0 (fun _ => true) true [26] args.toList ds p) (fin : ds.length = 1 → ∀ (e : Ending) (W' : World), e = .returned (.bool true) ∧ Old W W' → Q e W') :
    Calls Tryd.prog 4 args W Q := by
  have f_sh := mx_of hsh
  obtain ⟨v0, d0, rfl, rfl, hd0⟩ := trodAll_one hA
  obtain ⟨l0, hv0, hl0, hs0⟩ := open_files Tryd.underlying26 (hval 0 26 v0 rfl rfl) hd0
  exact (pathsCheck_walk W v0 l0 hv0 hl0 hs0 f_sh).mono (fin rfl)
theorem pathsCheck_params : Tryd.f4.params = #[26] := rfl
theorem pathsCheck_door (os : Os) (args : Array Value) : laidMetH Tryd.prog Rows.pathsCheckRow.laid ((World.laidAll Tryd.prog os Rows.pathsCheckRow.laid).forCall (fun _ _ => 0) ⟨#[], args, []⟩).memory := by
  rw [MakeChecks.laidMetH_plain _ _ _ (by kernel_rfl)]
  exact laidMet_laidAll _ (by kernel_rfl) (by kernel_rfl)
theorem pathsCheck_fn {H : Type} (ds : List (DataW H)) (h : ds.length = 1) : Rows.pathsCheckSpec.fn H ds = { results := [.lit (.bool true)], args := ds } := by
  match ds, h with
  | [_], _ => rfl
theorem pathsCheck_reads : ∀ t ∈ Tryd.f4.params.toList, Tryd.prog.readableRec t = true ∧ t < Tryd.prog.types.size := by
  rw [pathsCheck_params]; intro t ht; simp at ht; subst ht; exact ⟨by kernel_rfl, of_decide_eq_true (by kernel_rfl)⟩
set_option maxRecDepth 100000 in
theorem pathsCheck_lifted (os : Os) (started : os.Started) (H : Type) (enc : TypeId × Value → H) :
    ReturnsInHanded {} Tryd.checked os 4 .any (fun w args => (Rows.pathsCheckSpec.pre enc Tryd.prog Tryd.f4 [] false w args ∧ laidMetH Tryd.prog Rows.pathsCheckRow.laid w) ∧ sizedMet enc Tryd.prog Tryd.f4 (OpenSpec.ofChange Rows.pathsCheckSpec) false w args)
      (Rows.pathsCheckSpec.post enc Tryd.prog Tryd.f4 false true false false) := by
  refine handed_shaped (X := fun w => laidMetH Tryd.prog Rows.pathsCheckRow.laid w) (fun _ _ hh h => h.of_heap hh) started (by kernel_rfl) Tryd.func4
    (ChangeSpec.witness_shaped (enc := enc) (C := Tryd.checked) (os := os) (X := fun w _ => laidMetH Tryd.prog Rows.pathsCheckRow.laid w) false (World.laidAll Tryd.prog os Rows.pathsCheckRow.laid) #[.slice none 0 0] 8 (World.laidAll_os _ _ _) (World.shaped_of_ZipB (by kernel_rfl) (by kernel_rfl)) (by kernel_rfl) (by kernel_rfl) (by kernel_rfl) (pathsCheck_door os _)) ?_
  intro W base args ds gs before hval0 hW hL _
  have hval : ∀ (j : Nat) t v, Tryd.f4.params[j]? = some t → args[j]? = some v → Value.okWide Tryd.prog W .any base t v := hval0
  have hW' := hW
  obtain ⟨p, q, hA0, hV, hbef, hfz, hnd⟩ := hW
  have hA : DataW.TrodAll enc Tryd.prog W 0 (fun _ => true) true Tryd.f4.params.toList args.toList ds p := hA0
  have hgs : gs = [] := by cases gs with | nil => rfl | cons g r => exact absurd hV (by intro h; cases h)
  subst hgs
  have fin : ds.length = 1 → ∀ (e : Ending) (W' : World), e = .returned (.bool true) ∧ Old W W' → ∃ v, e = .returned v ∧ Rows.pathsCheckSpec.post enc Tryd.prog Tryd.f4 false true false false W args v W' := by
    rintro hd e W' ⟨rfl, hb⟩
    exact ⟨_, rfl, law_post hW' rfl pathsCheck_reads rfl (by rw [List.append_nil]; exact pathsCheck_fn ds hd) hb⟩
  rw [pathsCheck_params] at hA hval
  exact pathsCheck_open W base args ds p hL hval hA fin

theorem pathsCheck_holds : Rows.PathsCheckSaid :=
  OpenClaim.holds_of_wide 4 Tryd.f4 rfl rfl rfl rfl rfl rfl rfl ⟨rfl, rfl, rfl, rfl, rfl⟩ rfl rfl rfl rfl rfl (by kernel_rfl) Tryd.func4 (by kernel_rfl)
    (of_decide_eq_true (by kernel_rfl)) (by unfold Func.isWrapper; first | (rw [if_pos (by decide +kernel)]; kernel_rfl) | (rw [if_neg (by decide +kernel)]; exact ⟨rfl, rfl⟩))
    (fun os started H enc _ => pathsCheck_lifted os started H enc)
theorem pathsCheck_card : Rows.PathsCheckCardSaid :=
  Claim7.holds_tied_plain_at .later [] Rows.pathsCheckCard.laidKinds true Rows.pathsCheckCard.stood.harness Rows.pathsCheckCard.stood.looks
    pathsCheck_holds (fun _ h => by cases h) (by kernel_rfl) (fun _ h => by cases h) pathsCheck_row_tie rfl ⟨rfl, rfl⟩ (by kernel_rfl) rfl
    (fun f fn hf hfn => by
      obtain rfl : f = 4 := Option.some.inj ((show Tryd.prog.funcNamed Rows.pathsCheckRow.func = some 4 by kernel_rfl).symm.trans hf) |>.symm
      obtain rfl : fn = Tryd.f4 := (Option.some.inj (Tryd.func4.symm.trans hfn)).symm
      exact ⟨by kernel_rfl, fun j t ht => by
        rw [pathsCheck_params] at ht
        have hm : t ∈ [26] := by simpa using Array.mem_of_getElem? ht
        have hall : ([26].all fun u => !Tryd.prog.wantsStandIn u) = true := by kernel_rfl
        exact (show Tryd.prog.wantsStandIn t = false by simpa using List.all_eq_true.1 hall t hm)⟩)
    (by kernel_rfl)
#print axioms pathsCheck_card
end Go.Proofs.YtcmbmbdjdkldoaaDoor
