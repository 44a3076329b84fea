/- The law PathsTexts returns true at every text: the program's answers to whether it is a path, and a name, are the document's, and the chapter's examples hold. Conditions: the row's own (the listed variables hold what the program's text lays). -/
import Derived.Test.YtcmbmbdjdkldoaaDoorPathsZ
import Derived.Test.YtcmbmbdjdkldoaaDoorLiftF
import Derived.Test.YtcmbmbdjdkldoaaDoorCards
import Derived.Test.YtcmbmbdjdkldoaaDoorTie
namespace Go.Proofs.YtcmbmbdjdkldoaaDoor
open Go.ChangeShapes Go.WideShapes Go.ChangeAt Go.ChangeMaps Go.RowKit

set_option maxHeartbeats 2000000 in
set_option maxRecDepth 100000 in
theorem pathsTexts_walk (w : World) (s : ByteArray) (hs : s.size ≤ maxLen) (hm : Mx w) :
    Calls Tryd.prog 3 #[.string s] w fun e w' => e = .returned (.bool true) ∧ Old w w' := by
  have hl : s.data.toList.length ≤ maxLen := by simpa using hs
  have G1 := Lib.hid (path_any s.data.toList hl w hm)
  have G2 := Lib.hid (fun w1 => rpath_any s.data.toList hl w1)
  have G3 := Lib.hid (fun w1 => name_any s.data.toList hl w1)
  have G4 := Lib.hid (fun w1 => rname_any s.data.toList hl w1)
  have GA := Lib.hid (fun w1 hm => awake_any w1 hm)
  have HM := Lib.hid hm
  clear hm
  generalize M.path s.data.toList = x at *
  generalize M.name s.data.toList = y at *
  go_enter Tryd.func3, Tryd.ntmps3
  go_wp2_with (first
    | ((with_reducible refine G1.out.mono ?_); rintro e w1 ⟨rfl, o1⟩)
    | ((with_reducible refine (G2.out _).mono ?_); rintro e w2 ⟨rfl, hw⟩; obtain rfl := hw.symm)
    | ((with_reducible refine (G3.out _).mono ?_); rintro e w2 ⟨rfl, hw⟩; obtain rfl := hw.symm)
    | ((with_reducible refine (G4.out _).mono ?_); rintro e w2 ⟨rfl, hw⟩; obtain rfl := hw.symm)
    | ((with_reducible refine (GA.out _ (HM.out.old o1)).mono ?_); rintro e w3 ⟨rfl, o3⟩))
  go_ret
  exact ⟨rfl, o1.trans o3⟩

theorem pathsTexts_open {H : Type} {enc : TypeId × Value → H} {Q : Ending → World → Prop} (W : World) (base : Nat) (args : Array Value) (ds : List (DataW H)) (p : List MemPlace) (hsh : W.ShapedOpen Tryd.prog)
    (hval : ∀ (j : Nat) t v, (#[9] : Array TypeId)[j]? = some t → args[j]? = some v → Value.okWide Tryd.prog W .any base t v)
    (hA : DataW.TrodAll enc Tryd.prog W 0 (fun _ => true) true [9] args.toList ds p) (fin : ds.length = 1 → ∀ (e : Ending) (W' : World), e = .returned (.bool true) ∧ Old W W' → Q e W') :
    Calls Tryd.prog 3 args W Q := by
  have f_sh := mx_of hsh
  obtain ⟨v0, d0, rfl, rfl, hd0⟩ := trodAll_one hA
  obtain ⟨s0, rfl, rfl, rfl, hs0⟩ := open_string Tryd.underlying9 (hval 0 9 v0 rfl rfl) hd0
  exact (pathsTexts_walk W s0 hs0 f_sh).mono (fin rfl)
theorem pathsTexts_params : Tryd.f3.params = #[9] := rfl
theorem pathsTexts_door (os : Os) (args : Array Value) : laidMetH Tryd.prog Rows.pathsTextsRow.laid ((World.laidAll Tryd.prog os Rows.pathsTextsRow.laid).forCall (fun _ _ => 0) ⟨#[], args, []⟩).memory := by
  rw [MakeChecks.laidMetH_plain _ _ _ (by kernel_rfl)]
  exact laidMet_laidAll _ (by kernel_rfl) (by kernel_rfl)
theorem pathsTexts_fn {H : Type} (ds : List (DataW H)) (h : ds.length = 1) : Rows.pathsTextsSpec.fn H ds = { results := [.lit (.bool true)], args := ds } := by
  match ds, h with
  | [_], _ => rfl
theorem pathsTexts_reads : ∀ t ∈ Tryd.f3.params.toList, Tryd.prog.readableRec t = true ∧ t < Tryd.prog.types.size := by
  rw [pathsTexts_params]; intro t ht; simp at ht; subst ht; exact ⟨by kernel_rfl, of_decide_eq_true (by kernel_rfl)⟩
set_option maxRecDepth 100000 in
theorem pathsTexts_lifted (os : Os) (started : os.Started) (H : Type) (enc : TypeId × Value → H) :
    ReturnsInHanded {} Tryd.checked os 3 .any (fun w args => (Rows.pathsTextsSpec.pre enc Tryd.prog Tryd.f3 [] false w args ∧ laidMetH Tryd.prog Rows.pathsTextsRow.laid w) ∧ sizedMet enc Tryd.prog Tryd.f3 (OpenSpec.ofChange Rows.pathsTextsSpec) false w args)
      (Rows.pathsTextsSpec.post enc Tryd.prog Tryd.f3 false true false false) := by
  refine handed_shaped (X := fun w => laidMetH Tryd.prog Rows.pathsTextsRow.laid w) (fun _ _ hh h => h.of_heap hh) started (by kernel_rfl) Tryd.func3
    (ChangeSpec.witness_shaped (enc := enc) (C := Tryd.checked) (os := os) (X := fun w _ => laidMetH Tryd.prog Rows.pathsTextsRow.laid w) false (World.laidAll Tryd.prog os Rows.pathsTextsRow.laid) #[.string ⟨#[]⟩] 8 (World.laidAll_os _ _ _) (World.shaped_of_ZipB (by kernel_rfl) (by kernel_rfl)) (by kernel_rfl) (by kernel_rfl) (by kernel_rfl) (pathsTexts_door os _)) ?_
  intro W base args ds gs before hval0 hW hL _
  have hval : ∀ (j : Nat) t v, Tryd.f3.params[j]? = some t → args[j]? = some v → Value.okWide Tryd.prog W .any base t v := hval0
  have hW' := hW
  obtain ⟨p, q, hA0, hV, hbef, hfz, hnd⟩ := hW
  have hA : DataW.TrodAll enc Tryd.prog W 0 (fun _ => true) true Tryd.f3.params.toList args.toList ds p := hA0
  have hgs : gs = [] := by cases gs with | nil => rfl | cons g r => exact absurd hV (by intro h; cases h)
  subst hgs
  have fin : ds.length = 1 → ∀ (e : Ending) (W' : World), e = .returned (.bool true) ∧ Old W W' → ∃ v, e = .returned v ∧ Rows.pathsTextsSpec.post enc Tryd.prog Tryd.f3 false true false false W args v W' := by
    rintro hd e W' ⟨rfl, hb⟩
    exact ⟨_, rfl, law_post hW' rfl pathsTexts_reads rfl (by rw [List.append_nil]; exact pathsTexts_fn ds hd) hb⟩
  rw [pathsTexts_params] at hA hval
  exact pathsTexts_open W base args ds p hL hval hA fin

theorem pathsTexts_holds : Rows.PathsTextsSaid :=
  OpenClaim.holds_of_wide 3 Tryd.f3 rfl rfl rfl rfl rfl rfl rfl ⟨rfl, rfl, rfl, rfl, rfl⟩ rfl rfl rfl rfl rfl (by kernel_rfl) Tryd.func3 (by kernel_rfl)
    (of_decide_eq_true (by kernel_rfl)) (by unfold Func.isWrapper; first | (rw [if_pos (by decide +kernel)]; kernel_rfl) | (rw [if_neg (by decide +kernel)]; exact ⟨rfl, rfl⟩))
    (fun os started H enc _ => pathsTexts_lifted os started H enc)
theorem pathsTexts_card : Rows.PathsTextsCardSaid :=
  Claim7.holds_tied_plain_at .later [] Rows.pathsTextsCard.laidKinds true Rows.pathsTextsCard.stood.harness Rows.pathsTextsCard.stood.looks
    pathsTexts_holds (fun _ h => by cases h) (by kernel_rfl) (fun _ h => by cases h) pathsTexts_row_tie rfl ⟨rfl, rfl⟩ (by kernel_rfl) rfl
    (fun f fn hf hfn => by
      obtain rfl : f = 3 := Option.some.inj ((show Tryd.prog.funcNamed Rows.pathsTextsRow.func = some 3 by kernel_rfl).symm.trans hf) |>.symm
      obtain rfl : fn = Tryd.f3 := (Option.some.inj (Tryd.func3.symm.trans hfn)).symm
      exact ⟨by kernel_rfl, fun j t ht => by
        rw [pathsTexts_params] at ht
        have hm : t ∈ [9] := by simpa using Array.mem_of_getElem? ht
        have hall : ([9].all fun u => !Tryd.prog.wantsStandIn u) = true := by kernel_rfl
        exact (show Tryd.prog.wantsStandIn t = false by simpa using List.all_eq_true.1 hall t hm)⟩)
    (by kernel_rfl)
#print axioms pathsTexts_card
end Go.Proofs.YtcmbmbdjdkldoaaDoor
