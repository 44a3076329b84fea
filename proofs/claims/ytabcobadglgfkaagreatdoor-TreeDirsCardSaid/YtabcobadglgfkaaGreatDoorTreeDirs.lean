/- The law TreeDirs returns true at every list of files and every path: the entries of a directory of up to forty files and their digest are the document's, the list handed in stays, and the chapter's examples hold. Conditions: the row's own (the listed variables hold what the program's text lays). -/
import Derived.Test.YtabcobadglgfkaaGreatDoorMT10
import Derived.Test.YtabcobadglgfkaaGreatDoorMB4
import Derived.Test.YtabcobadglgfkaaGreatDoorMF3
import Derived.Test.YtabcobadglgfkaaGreatDoorMT1
import Derived.Test.YtabcobadglgfkaaGreatDoorCards
import Derived.Test.YtabcobadglgfkaaGreatDoorTie
namespace Go.Proofs.YtabcobadglgfkaaGreatDoor
open Go.ChangeShapes Go.WideShapes Go.ChangeAt Go.ChangeMaps Go.RowKit

set_option maxHeartbeats 4000000 in
set_option maxRecDepth 100000 in
theorem treeDirs_walk (w : World) (v : Value) (l : List M.Fi) (hv : Fl w v l) (hl : l.length ≤ maxLen) (_ : ∀ f, f ∈ l → f.1.length ≤ maxLen ∧ f.2.length ≤ maxLen) (s : ByteArray) (_ : s.size ≤ maxLen) (hm : Mx w) (ht : Tab w) (hb : Tabs w) :
    Calls Tryz.prog 3 #[v, .string s] w fun e w' => e = .returned (.bool true) ∧ Old w w' := by
  obtain ⟨⟨s⟩⟩ := s
  have hsz := size_mk s
  have hE := env_of hm ht hb
  have G0 := Lib.hid (fewT_any v l w hv hl)
  have GA := Lib.hid (fun w1 (h : Old w w1) => awake_any w1 (hE.old h))
  have O0 := Lib.hid (Below.refl w.heap.size w)
  by_cases hf : fewT l = true
  · have hls := fewT_less hf
    rw [hf] at G0
    by_cases hbig : 60 < s.length
    · clear hm ht hb hE hv hls hf hl
      go_enter Tryz.func3, Tryz.ntmps3
      go_wp2_with (first
        | ((with_reducible refine G0.out.mono ?_); rintro e w0 ⟨rfl, hw⟩; obtain rfl := hw)
        | ((with_reducible refine (GA.out _ O0.out).mono ?_); rintro e wz ⟨rfl, oz⟩))
      go_ret
      exact ⟨rfl, oz⟩
    · have H := Lib.hid hv
      have G1 := Lib.hid (fun v1 w1 (h : Old w w1) (hv1 : Fl w1 v1 l) => dir_any l s v1 w1 (hE.old h) hv1 hls.tame (by omega))
      have G2 := Lib.hid (fun w1 (h : Old w w1) => rdir_any press_any l s v w1 hls (hv.old h) (by omega))
      have G3 := Lib.hid (fun v1 w1 (h : Old w w1) (hv1 : Fl w1 v1 l) => fdigest_any l v1 w1 (hE.old h) hv1 hls.tame)
      have G4 := Lib.hid (fun w1 (h : Old w w1) => rDigest_any press_any l v w1 hls (hv.old h))
      have G5 := Lib.hid (fun v1 v2 w1 h1 h2 => same_self v1 v2 l w1 h1 h2 (by have := hls.1; omega))
      have hdl : (M.dirAt l s).length ≤ maxLen := by
        unfold M.dirAt maxLen
        split
        · have := (less_bytes hls).1; omega
        · have := (less_bytes (hls.under s)).1; omega
      have GE := Lib.hid (fun v1 v2 w1 h1 h2 => entries_any v1 v2 (M.dirAt l s) w1 h1 h2 hdl)
      have hll := hls.1
      clear hm ht hb hE hv hls hf hl hdl
      generalize M.dirAt l s = x at *
      generalize M.digest' l = y at *
      go_enter Tryz.func3, Tryz.ntmps3
      go_wp2_with (first
        | ((with_reducible refine G0.out.mono ?_); rintro e w0 ⟨rfl, hw⟩; obtain rfl := hw)
        | (at_builtin; refine wpList_append_files rfl _ _ rfl w.heap.size _ [] rfl (Own.void _) _ l rfl (H.out.old (Old.alloc w _)) (by rw [List.length_nil]; omega) (by rw [World.size_alloc]; omega) ?_))
      intro vo wo hown hgrow
      have o0 : Old w wo := Old.grownOwn (Own.void w) (Nat.le_refl _) (Old.alloc w _) hgrow
      have HFO := Lib.hid (show Fl wo vo l from hown.fl)
      clear hown hgrow
      go_wp2_with (first
        | ((with_reducible refine (G1.out _ _ o0 HFO.out).mono ?_); rintro e w1 ⟨u1, rfl, hu1, p1⟩; have o1 := o0.trans p1)
        | ((with_reducible refine (G2.out _ o1).mono ?_); rintro e w2 ⟨u2, rfl, hu2, p2⟩; have o2 := o1.trans p2)
        | ((with_reducible refine (GE.out u1 u2 _ (hu1.old p2) hu2).mono ?_); rintro e w3 ⟨rfl, n3, rfl⟩; have o3 := o2.trans (Old.drewN w2 n3))
        | ((with_reducible refine (G3.out _ _ o3 (HFO.out.old ((p1.trans p2).trans (Old.drewN w2 n3)))).mono ?_); rintro e w4 ⟨rfl, p4⟩; have o4 := o3.trans p4)
        | ((with_reducible refine (G4.out _ o4).mono ?_); rintro e w5 ⟨rfl, p5⟩; have o5 := o4.trans p5)
        | ((with_reducible refine (G5.out _ _ _ (HFO.out.old ((((p1.trans p2).trans (Old.drewN w2 n3)).trans p4).trans p5)) (H.out.old o5)).mono ?_); rintro e w6 ⟨rfl, n6, rfl⟩; have o6 := o5.trans (Old.drewN w5 n6))
        | ((with_reducible refine (GA.out _ o6).mono ?_); rintro e wz ⟨rfl, oz⟩))
      go_ret
      exact ⟨rfl, o6.trans oz⟩
  · rw [Bool.not_eq_true] at hf
    rw [hf] at G0
    clear hm ht hb hE hv hf hl
    go_enter Tryz.func3, Tryz.ntmps3
    go_wp2_with (first
      | ((with_reducible refine G0.out.mono ?_); rintro e w0 ⟨rfl, hw⟩; obtain rfl := hw)
      | ((with_reducible refine (GA.out _ O0.out).mono ?_); rintro e wz ⟨rfl, oz⟩))
    go_ret
    exact ⟨rfl, oz⟩

set_option maxRecDepth 100000 in
theorem treeDirs_open {H : Type} {enc : TypeId × Value → H} {Q : Ending → World → Prop} (W : World) (base : Nat) (args : Array Value) (ds : List (DataW H)) (p : List MemPlace) (hsh : W.ShapedOpen Tryz.prog) (hL : laidMetH Tryz.prog Rows.treeDirsRow.laid W)
    (hval : ∀ (j : Nat) t v, (#[22, 9] : Array TypeId)[j]? = some t → args[j]? = some v → Value.okWide Tryz.prog W .any base t v)
    (hA : DataW.TrodAll enc Tryz.prog W 0 (fun _ => true) true [22, 9] args.toList ds p) (fin : ds.length = 2 → ∀ (e : Ending) (W' : World), e = .returned (.bool true) ∧ Old W W' → Q e W') :
    Calls Tryz.prog 3 args W Q := by
  have f_sh := mx_of hsh
  rw [MakeChecks.laidMetH_plain _ _ _ (by kernel_rfl)] at hL
  have ft := tab_of hL (by simp [Rows.treeDirsRow])
  have f_tabs_of := tabs_of hL (by simp [Rows.treeDirsRow]) (by simp [Rows.treeDirsRow])
  obtain ⟨v0, v1, d0, d1, p0, p1, rfl, rfl, _, hd0, hd1⟩ := trodAll_two hA
  obtain ⟨l0, hv0, hl0, hs0⟩ := open_files Tryz.underlying22 (hval 0 22 v0 rfl rfl) hd0
  obtain ⟨s1, rfl, rfl, rfl, hs1⟩ := open_string Tryz.underlying9 (hval 1 9 v1 rfl rfl) hd1
  exact (treeDirs_walk W v0 l0 hv0 hl0 hs0 s1 hs1 f_sh ft f_tabs_of).mono (fin rfl)
theorem treeDirs_params : Tryz.f3.params = #[22, 9] := rfl
theorem treeDirs_door (os : Os) (args : Array Value) : laidMetH Tryz.prog Rows.treeDirsRow.laid ((World.laidAll Tryz.prog os Rows.treeDirsRow.laid).forCall (fun _ _ => 0) ⟨#[], args, []⟩).memory := by
  rw [MakeChecks.laidMetH_plain _ _ _ (by kernel_rfl)]
  exact laidMet_laidAll _ (by kernel_rfl) (by kernel_rfl)
theorem treeDirs_fn {H : Type} (ds : List (DataW H)) (h : ds.length = 2) : Rows.treeDirsSpec.fn H ds = { results := [.lit (.bool true)], args := ds } := by
  match ds, h with
  | [_, _], _ => rfl
theorem treeDirs_reads : ∀ t ∈ Tryz.f3.params.toList, Tryz.prog.readableRec t = true ∧ t < Tryz.prog.types.size := by
  rw [treeDirs_params]; intro t ht; simp at ht; rcases ht with rfl | rfl <;> exact ⟨by kernel_rfl, of_decide_eq_true (by kernel_rfl)⟩
set_option maxRecDepth 100000 in
theorem treeDirs_lifted (os : Os) (started : os.Started) (H : Type) (enc : TypeId × Value → H) :
    ReturnsInHanded {} Tryz.checked os 3 .any (fun w args => (Rows.treeDirsSpec.pre enc Tryz.prog Tryz.f3 [] false w args ∧ laidMetH Tryz.prog Rows.treeDirsRow.laid w) ∧ sizedMet enc Tryz.prog Tryz.f3 (OpenSpec.ofChange Rows.treeDirsSpec) false w args)
      (Rows.treeDirsSpec.post enc Tryz.prog Tryz.f3 false true false false) := by
  refine handed_shaped (X := fun w => laidMetH Tryz.prog Rows.treeDirsRow.laid w) (fun _ _ hh h => h.of_heap hh) started (by kernel_rfl) Tryz.func3
    (ChangeSpec.witness_shaped (enc := enc) (C := Tryz.checked) (os := os) (X := fun w _ => laidMetH Tryz.prog Rows.treeDirsRow.laid w) false (World.laidAll Tryz.prog os Rows.treeDirsRow.laid) #[.slice none 0 0, .string ⟨#[]⟩] 8 (World.laidAll_os _ _ _) (World.shaped_of_ZipB (by kernel_rfl) (by kernel_rfl)) (by kernel_rfl) (by kernel_rfl) (by kernel_rfl) (treeDirs_door os _)) ?_
  intro W base args ds gs before hval0 hW hL hX
  have hval : ∀ (j : Nat) t v, Tryz.f3.params[j]? = some t → args[j]? = some v → Value.okWide Tryz.prog W .any base t v := hval0
  have hW' := hW
  obtain ⟨p, q, hA0, hV, hbef, hfz, hnd⟩ := hW
  have hA : DataW.TrodAll enc Tryz.prog W 0 (fun _ => true) true Tryz.f3.params.toList args.toList ds p := hA0
  have hgs : gs = [] := by cases gs with | nil => rfl | cons g r => exact absurd hV (by intro h; cases h)
  subst hgs
  have fin : ds.length = 2 → ∀ (e : Ending) (W' : World), e = .returned (.bool true) ∧ Old W W' → ∃ v, e = .returned v ∧ Rows.treeDirsSpec.post enc Tryz.prog Tryz.f3 false true false false W args v W' := by
    rintro hd e W' ⟨rfl, hb⟩
    exact ⟨_, rfl, law_post hW' rfl treeDirs_reads rfl (by rw [List.append_nil]; exact treeDirs_fn ds hd) hb⟩
  rw [treeDirs_params] at hA hval
  exact treeDirs_open W base args ds p hL hX hval hA fin

theorem treeDirs_holds : Rows.TreeDirsSaid :=
  OpenClaim.holds_of_wide 3 Tryz.f3 rfl rfl rfl rfl rfl rfl rfl ⟨rfl, rfl, rfl, rfl, rfl⟩ rfl rfl rfl rfl rfl (by kernel_rfl) Tryz.func3 (by kernel_rfl)
    (of_decide_eq_true (by kernel_rfl)) (by unfold Func.isWrapper; first | (rw [if_pos (by decide +kernel)]; kernel_rfl) | (rw [if_neg (by decide +kernel)]; exact ⟨rfl, rfl⟩))
    (fun os started H enc _ => treeDirs_lifted os started H enc)
theorem treeDirs_card : Rows.TreeDirsCardSaid :=
  Claim7.holds_tied_plain_at .later [] Rows.treeDirsCard.laidKinds true Rows.treeDirsCard.stood.harness Rows.treeDirsCard.stood.looks
    treeDirs_holds (fun _ h => by cases h) (by kernel_rfl) (fun _ h => by cases h) treeDirs_row_tie rfl ⟨rfl, rfl⟩ (by kernel_rfl) rfl
    (fun f fn hf hfn => by
      obtain rfl : f = 3 := Option.some.inj ((show Tryz.prog.funcNamed Rows.treeDirsRow.func = some 3 by kernel_rfl).symm.trans hf) |>.symm
      obtain rfl : fn = Tryz.f3 := (Option.some.inj (Tryz.func3.symm.trans hfn)).symm
      exact ⟨by kernel_rfl, fun j t ht => by
        rw [treeDirs_params] at ht
        have hm : t ∈ [22, 9] := by simpa using Array.mem_of_getElem? ht
        have hall : ([22, 9].all fun u => !Tryz.prog.wantsStandIn u) = true := by kernel_rfl
        exact (show Tryz.prog.wantsStandIn t = false by simpa using List.all_eq_true.1 hall t hm)⟩)
    (by kernel_rfl)
#print axioms treeDirs_card
end Go.Proofs.YtabcobadglgfkaaGreatDoor
