/- The law PathsInto returns true at every list of files and every path: up to a hundred files put below a path are the document's, and the chapter's examples hold. Conditions: the row's own (the listed variables hold what the program's text lays). -/
import Derived.Test.YtcmbmbdjdkldoaaDoorPathsAA
import Derived.Test.YtcmbmbdjdkldoaaDoorLiftF
import Derived.Test.YtcmbmbdjdkldoaaDoorCards
import Derived.Test.YtcmbmbdjdkldoaaDoorTie
namespace Go.Proofs.YtcmbmbdjdkldoaaDoor
open Go.ChangeShapes Go.WideShapes Go.ChangeAt Go.ChangeMaps Go.RowKit

set_option maxHeartbeats 2000000 in
set_option maxRecDepth 100000 in
theorem pathsInto_walk (w : World) (v : Value) (l : List M.Fi) (hv : Fl w v l) (hl : l.length ≤ maxLen) (_ : ∀ f, f ∈ l → f.1.length ≤ maxLen ∧ f.2.length ≤ maxLen) (s : ByteArray) (hs : s.size ≤ maxLen) (hm : Mx w) :
    Calls Tryd.prog 15 #[v, .string s] w fun e w' => e = .returned (.bool true) ∧ Old w w' := by
  obtain ⟨⟨s⟩⟩ := s
  have G0 := Lib.hid (few_any v l w hv hl)
  have hsz := size_mk s
  by_cases hfew : M.few l = true
  · obtain ⟨_, _, hal⟩ := few_alls hfew
    rw [hfew] at G0
    by_cases hbig : 500 < s.length
    · clear hal
      have GA := Lib.hid (awake_any w hm)
      go_enter Tryd.func15, Tryd.ntmps15
      go_wp2_with (first
        | ((with_reducible refine G0.out.mono ?_); rintro e w0 ⟨rfl, rfl⟩)
        | ((with_reducible refine GA.out.mono ?_); rintro e w3 ⟨rfl, o3⟩))
      go_ret
      exact ⟨rfl, o3⟩
    · have hs2 : s.length ≤ 1099511627776 := by omega
      have hl2 := hal.1
      have GA := Lib.hid (fun w1 hm => awake_any w1 hm)
      have HM := Lib.hid hm
      have H := Lib.hid hv
      have G1 := Lib.hid (into_any v l s w hv hal hs2 hm)
      have G2 := Lib.hid (fun w1 h => rinto_any v l s w1 h hal hs2)
      have GS := Lib.hid (fun v1 v2 w1 h1 h2 => same_self v1 v2 (M.into l s).1 w1 h1 h2 (Nat.le_trans (into_len l s) hl2))
      generalize M.into l s = x at *
      obtain ⟨x1, x2⟩ := x
      simp only at G1 G2 GS
      clear hm hv hal hfew hl
      go_enter Tryd.func15, Tryd.ntmps15
      go_wp2_with (first
        | ((with_reducible refine G0.out.mono ?_); rintro e w0 ⟨rfl, rfl⟩)
        | ((with_reducible refine G1.out.mono ?_); rintro e w1 ⟨u1, rfl, hu1, o1⟩)
        | ((with_reducible refine (G2.out _ (H.out.old o1)).mono ?_); rintro e w2 ⟨u2, rfl, hu2, o2⟩; have o12 := o1.trans o2)
        | ((with_reducible refine (GS.out u1 u2 _ (hu1.fl.old o2) hu2.fl).mono ?_); rintro e w4 ⟨rfl, n4, rfl⟩; have o4 := o12.trans (Old.drewN w2 n4))
        | ((with_reducible refine (GA.out _ (HM.out.old o4)).mono ?_); rintro e wz ⟨rfl, oz⟩))
      go_ret
      exact ⟨rfl, o4.trans oz⟩
  · rw [Bool.not_eq_true] at hfew
    rw [hfew] at G0
    have GA := Lib.hid (awake_any w hm)
    go_enter Tryd.func15, Tryd.ntmps15
    go_wp2_with (first
      | ((with_reducible refine G0.out.mono ?_); rintro e w0 ⟨rfl, rfl⟩)
      | ((with_reducible refine GA.out.mono ?_); rintro e w3 ⟨rfl, o3⟩))
    go_ret
    exact ⟨rfl, o3⟩

theorem pathsInto_open {H : Type} {enc : TypeId × Value → H} {Q : Ending → World → Prop} (W : World) (base : Nat) (args : Array Value) (ds : List (DataW H)) (p : List MemPlace) (hsh : W.ShapedOpen Tryd.prog)
    (hval : ∀ (j : Nat) t v, (#[26, 9] : Array TypeId)[j]? = some t → args[j]? = some v → Value.okWide Tryd.prog W .any base t v)
    (hA : DataW.TrodAll enc Tryd.prog W 0 (fun _ => true) true [26, 9] args.toList ds p) (fin : ds.length = 2 → ∀ (e : Ending) (W' : World), e = .returned (.bool true) ∧ Old W W' → Q e W') :
    Calls Tryd.prog 15 args W Q := by
  have f_sh := mx_of hsh
  obtain ⟨v0, v1, d0, d1, p0, p1, rfl, rfl, _, hd0, hd1⟩ := trodAll_two hA
  obtain ⟨l0, hv0, hl0, hs0⟩ := open_files Tryd.underlying26 (hval 0 26 v0 rfl rfl) hd0
  obtain ⟨s1, rfl, rfl, rfl, hs1⟩ := open_string Tryd.underlying9 (hval 1 9 v1 rfl rfl) hd1
  exact (pathsInto_walk W v0 l0 hv0 hl0 hs0 s1 hs1 f_sh).mono (fin rfl)
theorem pathsInto_params : Tryd.f15.params = #[26, 9] := rfl
theorem pathsInto_door (os : Os) (args : Array Value) : laidMetH Tryd.prog Rows.pathsIntoRow.laid ((World.laidAll Tryd.prog os Rows.pathsIntoRow.laid).forCall (fun _ _ => 0) ⟨#[], args, []⟩).memory := by
  rw [MakeChecks.laidMetH_plain _ _ _ (by kernel_rfl)]
  exact laidMet_laidAll _ (by kernel_rfl) (by kernel_rfl)
theorem pathsInto_fn {H : Type} (ds : List (DataW H)) (h : ds.length = 2) : Rows.pathsIntoSpec.fn H ds = { results := [.lit (.bool true)], args := ds } := by
  match ds, h with
  | [_, _], _ => rfl
theorem pathsInto_reads : ∀ t ∈ Tryd.f15.params.toList, Tryd.prog.readableRec t = true ∧ t < Tryd.prog.types.size := by
  rw [pathsInto_params]; intro t ht; simp at ht; rcases ht with rfl | rfl <;> exact ⟨by kernel_rfl, of_decide_eq_true (by kernel_rfl)⟩
set_option maxRecDepth 100000 in
theorem pathsInto_lifted (os : Os) (started : os.Started) (H : Type) (enc : TypeId × Value → H) :
    ReturnsInHanded {} Tryd.checked os 15 .any (fun w args => (Rows.pathsIntoSpec.pre enc Tryd.prog Tryd.f15 [] false w args ∧ laidMetH Tryd.prog Rows.pathsIntoRow.laid w) ∧ sizedMet enc Tryd.prog Tryd.f15 (OpenSpec.ofChange Rows.pathsIntoSpec) false w args)
      (Rows.pathsIntoSpec.post enc Tryd.prog Tryd.f15 false true false false) := by
  refine handed_shaped (X := fun w => laidMetH Tryd.prog Rows.pathsIntoRow.laid w) (fun _ _ hh h => h.of_heap hh) started (by kernel_rfl) Tryd.func15
    (ChangeSpec.witness_shaped (enc := enc) (C := Tryd.checked) (os := os) (X := fun w _ => laidMetH Tryd.prog Rows.pathsIntoRow.laid w) false (World.laidAll Tryd.prog os Rows.pathsIntoRow.laid) #[.slice none 0 0, .string ⟨#[]⟩] 8 (World.laidAll_os _ _ _) (World.shaped_of_ZipB (by kernel_rfl) (by kernel_rfl)) (by kernel_rfl) (by kernel_rfl) (by kernel_rfl) (pathsInto_door os _)) ?_
  intro W base args ds gs before hval0 hW hL _
  have hval : ∀ (j : Nat) t v, Tryd.f15.params[j]? = some t → args[j]? = some v → Value.okWide Tryd.prog W .any base t v := hval0
  have hW' := hW
  obtain ⟨p, q, hA0, hV, hbef, hfz, hnd⟩ := hW
  have hA : DataW.TrodAll enc Tryd.prog W 0 (fun _ => true) true Tryd.f15.params.toList args.toList ds p := hA0
  have hgs : gs = [] := by cases gs with | nil => rfl | cons g r => exact absurd hV (by intro h; cases h)
  subst hgs
  have fin : ds.length = 2 → ∀ (e : Ending) (W' : World), e = .returned (.bool true) ∧ Old W W' → ∃ v, e = .returned v ∧ Rows.pathsIntoSpec.post enc Tryd.prog Tryd.f15 false true false false W args v W' := by
    rintro hd e W' ⟨rfl, hb⟩
    exact ⟨_, rfl, law_post hW' rfl pathsInto_reads rfl (by rw [List.append_nil]; exact pathsInto_fn ds hd) hb⟩
  rw [pathsInto_params] at hA hval
  exact pathsInto_open W base args ds p hL hval hA fin

theorem pathsInto_holds : Rows.PathsIntoSaid :=
  OpenClaim.holds_of_wide 15 Tryd.f15 rfl rfl rfl rfl rfl rfl rfl ⟨rfl, rfl, rfl, rfl, rfl⟩ rfl rfl rfl rfl rfl (by kernel_rfl) Tryd.func15 (by kernel_rfl)
    (of_decide_eq_true (by kernel_rfl)) (by unfold Func.isWrapper; first | (rw [if_pos (by decide +kernel)]; kernel_rfl) | (rw [if_neg (by decide +kernel)]; exact ⟨rfl, rfl⟩))
    (fun os started H enc _ => pathsInto_lifted os started H enc)
theorem pathsInto_card : Rows.PathsIntoCardSaid :=
  Claim7.holds_tied_plain_at .later [] Rows.pathsIntoCard.laidKinds true Rows.pathsIntoCard.stood.harness Rows.pathsIntoCard.stood.looks
    pathsInto_holds (fun _ h => by cases h) (by kernel_rfl) (fun _ h => by cases h) pathsInto_row_tie rfl ⟨rfl, rfl⟩ (by kernel_rfl) rfl
    (fun f fn hf hfn => by
      obtain rfl : f = 15 := Option.some.inj ((show Tryd.prog.funcNamed Rows.pathsIntoRow.func = some 15 by kernel_rfl).symm.trans hf) |>.symm
      obtain rfl : fn = Tryd.f15 := (Option.some.inj (Tryd.func15.symm.trans hfn)).symm
      exact ⟨by kernel_rfl, fun j t ht => by
        rw [pathsInto_params] at ht
        have hm : t ∈ [26, 9] := by simpa using Array.mem_of_getElem? ht
        have hall : ([26, 9].all fun u => !Tryd.prog.wantsStandIn u) = true := by kernel_rfl
        exact (show Tryd.prog.wantsStandIn t = false by simpa using List.all_eq_true.1 hall t hm)⟩)
    (by kernel_rfl)
#print axioms pathsInto_card
end Go.Proofs.YtcmbmbdjdkldoaaDoor
