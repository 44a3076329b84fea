/- The law PathsJoins returns true at every two lists of files and every path: up to sixty files put below a path, and with up to sixty others, are the document's. Conditions: the row's own (the listed variables hold what the program's text lays). -/
import Derived.Test.YtcmbmbdjdkldoaaDoorPathsAA
import Derived.Test.YtcmbmbdjdkldoaaDoorLiftF
import Derived.Test.YtcmbmbdjdkldoaaDoorCards
import Derived.Test.YtcmbmbdjdkldoaaDoorTie
namespace Go.Proofs.YtcmbmbdjdkldoaaDoor
open Go.ChangeShapes Go.WideShapes Go.ChangeAt Go.ChangeMaps Go.RowKit

set_option maxHeartbeats 2000000 in
set_option maxRecDepth 100000 in
theorem pathsJoins_walk (w : World) (v : Value) (l : List M.Fi) (hv : Fl w v l) (hl : l.length ≤ maxLen) (_ : ∀ f, f ∈ l → f.1.length ≤ maxLen ∧ f.2.length ≤ maxLen) (v2 : Value) (l2 : List M.Fi) (hv2 : Fl w v2 l2) (hl2 : l2.length ≤ maxLen) (_ : ∀ f, f ∈ l2 → f.1.length ≤ maxLen ∧ f.2.length ≤ maxLen) (s : ByteArray) (hs : s.size ≤ maxLen) (hm : Mx w) :
    Calls Tryd.prog 7 #[v, v2, .string s] w fun e w' => e = .returned (.bool true) ∧ Old w w' := by
  obtain ⟨⟨s⟩⟩ := s
  have hsz := size_mk s
  have G0 := Lib.hid (few_any v l w hv hl)
  have G0' := Lib.hid (few_any v2 l2 w hv2 hl2)
  have GB := Lib.hid (awake_any w hm)
  obtain ⟨p, cap, rfl⟩ := hv.len
  obtain ⟨p2, cap2, rfl⟩ := hv2.len
  by_cases hfew : M.few l = true
  · obtain ⟨_, _, hal⟩ := few_alls hfew
    rw [hfew] at G0
    by_cases hfew2 : M.few l2 = true
    · obtain ⟨_, _, hal2⟩ := few_alls hfew2
      rw [hfew2] at G0'
      by_cases hb1 : 60 < l.length
      · clear hal hal2
        go_enter Tryd.func7, Tryd.ntmps7
        go_wp2_with (first
          | ((with_reducible refine G0.out.mono ?_); rintro e w0 ⟨rfl, rfl⟩)
          | ((with_reducible refine G0'.out.mono ?_); rintro e w0 ⟨rfl, rfl⟩)
          | ((with_reducible refine GB.out.mono ?_); rintro e w3 ⟨rfl, o3⟩))
        go_ret
        exact ⟨rfl, o3⟩
      · by_cases hb2 : 60 < l2.length
        · clear hal hal2
          go_enter Tryd.func7, Tryd.ntmps7
          go_wp2_with (first
            | ((with_reducible refine G0.out.mono ?_); rintro e w0 ⟨rfl, rfl⟩)
            | ((with_reducible refine G0'.out.mono ?_); rintro e w0 ⟨rfl, rfl⟩)
            | ((with_reducible refine GB.out.mono ?_); rintro e w3 ⟨rfl, o3⟩))
          go_ret
          exact ⟨rfl, o3⟩
        · by_cases hbig : 500 < s.length
          · clear hal hal2
            go_enter Tryd.func7, Tryd.ntmps7
            go_wp2_with (first
              | ((with_reducible refine G0.out.mono ?_); rintro e w0 ⟨rfl, rfl⟩)
              | ((with_reducible refine G0'.out.mono ?_); rintro e w0 ⟨rfl, rfl⟩)
              | ((with_reducible refine GB.out.mono ?_); rintro e w3 ⟨rfl, o3⟩))
            go_ret
            exact ⟨rfl, o3⟩
          · have hs2 : s.length ≤ 1099511627776 := by omega
            have hlw := hal.1
            have G1 := Lib.hid (into_any _ l s w hv hal hs2 hm)
            have G2 := Lib.hid (fun w1 (h : Fl w1 (.slice p l.length cap) l) => rinto_any _ l s w1 h hal hs2)
            have GSI := Lib.hid (fun v1 v2 w1 h1 h2 => same_self v1 v2 (M.into l s).1 w1 h1 h2 (Nat.le_trans (into_len l s) hlw))
            have G3 := Lib.hid (fun w1 (h : Fl w1 (.slice p l.length cap) l) (h2 : Fl w1 (.slice p2 l2.length cap2) l2) hm => union_any _ _ l l2 w1 h hal h2 hal2 hm)
            have G4 := Lib.hid (fun w1 (h : Fl w1 (.slice p l.length cap) l) (h2 : Fl w1 (.slice p2 l2.length cap2) l2) => runion_any _ _ l l2 w1 h hal h2 hal2)
            have GSU := Lib.hid (fun v1 v2 w1 h1 h2 => same_self v1 v2 (M.union l l2).1 w1 h1 h2 (Nat.le_trans (union_len l2 l (by omega)) (by decide)))
            have GA := Lib.hid (fun w1 hm => awake_any w1 hm)
            have HM := Lib.hid hm
            have H := Lib.hid hv
            have H2 := Lib.hid hv2
            clear hm hv hal hfew hl hv2 hal2 hfew2 hl2 GB
            generalize M.into l s = x at *
            obtain ⟨x1, x2⟩ := x
            simp only at G1 G2 GSI
            generalize M.union l l2 = y at *
            obtain ⟨y1, y2⟩ := y
            simp only at G3 G4 GSU
            go_enter Tryd.func7, Tryd.ntmps7
            go_wp2_with (first
              | ((with_reducible refine G0.out.mono ?_); rintro e w0 ⟨rfl, rfl⟩)
              | ((with_reducible refine G0'.out.mono ?_); rintro e w0 ⟨rfl, rfl⟩)
              | ((with_reducible refine G1.out.mono ?_); rintro e w1 ⟨u1, rfl, hu1, o1⟩)
              | ((with_reducible refine (G2.out _ (H.out.old o1)).mono ?_); rintro e w2 ⟨u2, rfl, hu2, o2'⟩; have o2 := o1.trans o2')
              | ((with_reducible refine (G3.out _ (H.out.old o2) (H2.out.old o2) (HM.out.old o2)).mono ?_); rintro e w3 ⟨u3, rfl, hu3, o3'⟩; have o3 := o2.trans o3')
              | ((with_reducible refine (G4.out _ (H.out.old o3) (H2.out.old o3)).mono ?_); rintro e w4 ⟨u4, rfl, hu4, o4'⟩; have o4 := o3.trans o4')
              | ((with_reducible refine (GSI.out u1 u2 _ (hu1.fl.old (o2'.trans (o3'.trans o4'))) (hu2.fl.old (o3'.trans o4'))).mono ?_); rintro e w5 ⟨rfl, n5, rfl⟩; have o5 := o4.trans (Old.drewN w4 n5))
              | ((with_reducible refine (GSU.out u3 u4 _ (hu3.fl.old (o4'.trans (Old.drewN w4 n5))) (hu4.fl.old (Old.drewN w4 n5))).mono ?_); rintro e w6 ⟨rfl, n6, rfl⟩; have o6 := o4.trans (Old.drewN w4 (n5 + n6)))
              | ((with_reducible refine (GA.out _ (HM.out.old o6)).mono ?_); rintro e wz ⟨rfl, oz⟩))
            go_ret
            exact ⟨rfl, o6.trans oz⟩
    · rw [Bool.not_eq_true] at hfew2
      rw [hfew2] at G0'
      go_enter Tryd.func7, Tryd.ntmps7
      go_wp2_with (first
        | ((with_reducible refine G0.out.mono ?_); rintro e w0 ⟨rfl, rfl⟩)
        | ((with_reducible refine G0'.out.mono ?_); rintro e w0 ⟨rfl, rfl⟩)
        | ((with_reducible refine GB.out.mono ?_); rintro e w3 ⟨rfl, o3⟩))
      go_ret
      exact ⟨rfl, o3⟩
  · rw [Bool.not_eq_true] at hfew
    rw [hfew] at G0
    go_enter Tryd.func7, Tryd.ntmps7
    go_wp2_with (first
      | ((with_reducible refine G0.out.mono ?_); rintro e w0 ⟨rfl, rfl⟩)
      | ((with_reducible refine G0'.out.mono ?_); rintro e w0 ⟨rfl, rfl⟩)
      | ((with_reducible refine GB.out.mono ?_); rintro e w3 ⟨rfl, o3⟩))
    go_ret
    exact ⟨rfl, o3⟩

theorem pathsJoins_open {H : Type} {enc : TypeId × Value → H} {Q : Ending → World → Prop} (W : World) (base : Nat) (args : Array Value) (ds : List (DataW H)) (p : List MemPlace) (hsh : W.ShapedOpen Tryd.prog)
    (hval : ∀ (j : Nat) t v, (#[26, 26, 9] : Array TypeId)[j]? = some t → args[j]? = some v → Value.okWide Tryd.prog W .any base t v)
    (hA : DataW.TrodAll enc Tryd.prog W 0 (fun _ => true) true [26, 26, 9] args.toList ds p) (fin : ds.length = 3 → ∀ (e : Ending) (W' : World), e = .returned (.bool true) ∧ Old W W' → Q e W') :
    Calls Tryd.prog 7 args W Q := by
  have f_sh := mx_of hsh
  obtain ⟨v0, v1, v2, d0, d1, d2, p0, p1, p2, rfl, rfl, _, hd0, hd1, hd2⟩ := trodAll_three hA
  obtain ⟨l0, hv0, hl0, hs0⟩ := open_files Tryd.underlying26 (hval 0 26 v0 rfl rfl) hd0
  obtain ⟨l1, hv1, hl1, hs1⟩ := open_files Tryd.underlying26 (hval 1 26 v1 rfl rfl) hd1
  obtain ⟨s2, rfl, rfl, rfl, hs2⟩ := open_string Tryd.underlying9 (hval 2 9 v2 rfl rfl) hd2
  exact (pathsJoins_walk W v0 l0 hv0 hl0 hs0 v1 l1 hv1 hl1 hs1 s2 hs2 f_sh).mono (fin rfl)
theorem pathsJoins_params : Tryd.f7.params = #[26, 26, 9] := rfl
theorem pathsJoins_door (os : Os) (args : Array Value) : laidMetH Tryd.prog Rows.pathsJoinsRow.laid ((World.laidAll Tryd.prog os Rows.pathsJoinsRow.laid).forCall (fun _ _ => 0) ⟨#[], args, []⟩).memory := by
  rw [MakeChecks.laidMetH_plain _ _ _ (by kernel_rfl)]
  exact laidMet_laidAll _ (by kernel_rfl) (by kernel_rfl)
theorem pathsJoins_fn {H : Type} (ds : List (DataW H)) (h : ds.length = 3) : Rows.pathsJoinsSpec.fn H ds = { results := [.lit (.bool true)], args := ds } := by
  match ds, h with
  | [_, _, _], _ => rfl
theorem pathsJoins_reads : ∀ t ∈ Tryd.f7.params.toList, Tryd.prog.readableRec t = true ∧ t < Tryd.prog.types.size := by
  rw [pathsJoins_params]; intro t ht; simp at ht; rcases ht with rfl | rfl | rfl <;> exact ⟨by kernel_rfl, of_decide_eq_true (by kernel_rfl)⟩
set_option maxRecDepth 100000 in
theorem pathsJoins_lifted (os : Os) (started : os.Started) (H : Type) (enc : TypeId × Value → H) :
    ReturnsInHanded {} Tryd.checked os 7 .any (fun w args => (Rows.pathsJoinsSpec.pre enc Tryd.prog Tryd.f7 [] false w args ∧ laidMetH Tryd.prog Rows.pathsJoinsRow.laid w) ∧ sizedMet enc Tryd.prog Tryd.f7 (OpenSpec.ofChange Rows.pathsJoinsSpec) false w args)
      (Rows.pathsJoinsSpec.post enc Tryd.prog Tryd.f7 false true false false) := by
  refine handed_shaped (X := fun w => laidMetH Tryd.prog Rows.pathsJoinsRow.laid w) (fun _ _ hh h => h.of_heap hh) started (by kernel_rfl) Tryd.func7
    (ChangeSpec.witness_shaped (enc := enc) (C := Tryd.checked) (os := os) (X := fun w _ => laidMetH Tryd.prog Rows.pathsJoinsRow.laid w) false (World.laidAll Tryd.prog os Rows.pathsJoinsRow.laid) #[.slice none 0 0, .slice none 0 0, .string ⟨#[]⟩] 8 (World.laidAll_os _ _ _) (World.shaped_of_ZipB (by kernel_rfl) (by kernel_rfl)) (by kernel_rfl) (by kernel_rfl) (by kernel_rfl) (pathsJoins_door os _)) ?_
  intro W base args ds gs before hval0 hW hL _
  have hval : ∀ (j : Nat) t v, Tryd.f7.params[j]? = some t → args[j]? = some v → Value.okWide Tryd.prog W .any base t v := hval0
  have hW' := hW
  obtain ⟨p, q, hA0, hV, hbef, hfz, hnd⟩ := hW
  have hA : DataW.TrodAll enc Tryd.prog W 0 (fun _ => true) true Tryd.f7.params.toList args.toList ds p := hA0
  have hgs : gs = [] := by cases gs with | nil => rfl | cons g r => exact absurd hV (by intro h; cases h)
  subst hgs
  have fin : ds.length = 3 → ∀ (e : Ending) (W' : World), e = .returned (.bool true) ∧ Old W W' → ∃ v, e = .returned v ∧ Rows.pathsJoinsSpec.post enc Tryd.prog Tryd.f7 false true false false W args v W' := by
    rintro hd e W' ⟨rfl, hb⟩
    exact ⟨_, rfl, law_post hW' rfl pathsJoins_reads rfl (by rw [List.append_nil]; exact pathsJoins_fn ds hd) hb⟩
  rw [pathsJoins_params] at hA hval
  exact pathsJoins_open W base args ds p hL hval hA fin

theorem pathsJoins_holds : Rows.PathsJoinsSaid :=
  OpenClaim.holds_of_wide 7 Tryd.f7 rfl rfl rfl rfl rfl rfl rfl ⟨rfl, rfl, rfl, rfl, rfl⟩ rfl rfl rfl rfl rfl (by kernel_rfl) Tryd.func7 (by kernel_rfl)
    (of_decide_eq_true (by kernel_rfl)) (by unfold Func.isWrapper; first | (rw [if_pos (by decide +kernel)]; kernel_rfl) | (rw [if_neg (by decide +kernel)]; exact ⟨rfl, rfl⟩))
    (fun os started H enc _ => pathsJoins_lifted os started H enc)
theorem pathsJoins_card : Rows.PathsJoinsCardSaid :=
  Claim7.holds_tied_plain_at .later [] Rows.pathsJoinsCard.laidKinds true Rows.pathsJoinsCard.stood.harness Rows.pathsJoinsCard.stood.looks
    pathsJoins_holds (fun _ h => by cases h) (by kernel_rfl) (fun _ h => by cases h) pathsJoins_row_tie rfl ⟨rfl, rfl⟩ (by kernel_rfl) rfl
    (fun f fn hf hfn => by
      obtain rfl : f = 7 := Option.some.inj ((show Tryd.prog.funcNamed Rows.pathsJoinsRow.func = some 7 by kernel_rfl).symm.trans hf) |>.symm
      obtain rfl : fn = Tryd.f7 := (Option.some.inj (Tryd.func7.symm.trans hfn)).symm
      exact ⟨by kernel_rfl, fun j t ht => by
        rw [pathsJoins_params] at ht
        have hm : t ∈ [26, 26, 9] := by simpa using Array.mem_of_getElem? ht
        have hall : ([26, 26, 9].all fun u => !Tryd.prog.wantsStandIn u) = true := by kernel_rfl
        exact (show Tryd.prog.wantsStandIn t = false by simpa using List.all_eq_true.1 hall t hm)⟩)
    (by kernel_rfl)
#print axioms pathsJoins_card
end Go.Proofs.YtcmbmbdjdkldoaaDoor
