/- The law TreeDigests returns true at every list of files: the digest of valid files is the digest of the bytes of their directory's entries, and the chapter's examples hold. Conditions: the row's own (the listed variables hold what the program's text lays). -/
import Derived.Test.YtabcobadglgfkaaGreatDoorMT5
import Derived.Test.YtabcobadglgfkaaGreatDoorMT1
import Derived.Test.YtabcobadglgfkaaGreatDoorCards
import Derived.Test.YtabcobadglgfkaaGreatDoorTie
namespace Go.Proofs.YtabcobadglgfkaaGreatDoor
open Go.ChangeShapes Go.WideShapes Go.ChangeAt Go.ChangeMaps Go.RowKit

set_option maxHeartbeats 2000000 in
set_option maxRecDepth 100000 in
theorem treeDigests_walk (w : World) (v : Value) (l : List M.Fi) (hv : Fl w v l) (hl : l.length ≤ maxLen) (hs : ∀ f, f ∈ l → f.1.length ≤ maxLen ∧ f.2.length ≤ maxLen) (hm : Mx w) (ht : Tab w) (hb : Tabs w) :
    Calls Tryz.prog 8 #[v] w fun e w' => e = .returned (.bool true) ∧ Old w w' := by
  have hE := env_of hm ht hb
  have G0 := Lib.hid (check_wide v l w hv hl hs hm)
  have GA := Lib.hid (fun w1 (h : Old w w1) => awake_any w1 (hE.old h))
  by_cases h0 : M.check l = 0
  · have htame := tame_valid h0
    rw [h0] at G0
    have G1 := Lib.hid (fun w1 (h : Old w w1) => dir_any l [] v w1 (hE.old h) (hv.old h) htame (by simp))
    have G2 := Lib.hid (fun (u : Value) w1 (h : Old w w1) (hu : El w1 u (M.dirAt l [])) => show Calls Tryz.prog 19 #[u] w1 fun e w' => e = .returned (.tuple #[S (M.bytes (M.dir l)), .int .i64 0]) ∧ Old w1 w' from by
      have := encode_any u (M.dir l) w1 (hE.old h).tab (hE.old h).mx hu (by have := (neat_dir htame).1; omega) (fun e he => by have := (neat_dir htame).2 e he; unfold maxLen; omega)
      rw [encode_dir h0] at this
      exact this)
    have G3 := Lib.hid (fun w1 (h : Old w w1) => fdigest_any l v w1 (hE.old h) (hv.old h) htame)
    have G4 := Lib.hid (fun w1 (h : Old w w1) => show Calls Tryz.prog 30 #[S (M.bytes (M.dir l))] w1 fun e w' => e = .returned (S (M.digest' l)) ∧ Old w1 w' from
      sum_any ⟨⟨M.bytes (M.dir l)⟩⟩ (by have := (neat_dir htame).bytes; rw [size_mk]; omega) w1 (hE.old h).tabs)
    clear hm ht hb hE hv htame hs hl h0
    generalize M.bytes (M.dir l) = by0 at *
    generalize M.digest' l = dg at *
    go_enter Tryz.func8, Tryz.ntmps8
    go_wp2_with (first
      | ((with_reducible refine G0.out.mono ?_); rintro e w1 ⟨rfl, o1⟩)
      | ((with_reducible refine (G1.out _ o1).mono ?_); rintro e w2 ⟨u, rfl, hu, o2⟩; have o12 := o1.trans o2)
      | ((with_reducible refine (G2.out u _ o12 hu).mono ?_); rintro e w3 ⟨rfl, o3⟩; have o13 := o12.trans o3)
      | ((with_reducible refine (G3.out _ o13).mono ?_); rintro e w4 ⟨rfl, o4⟩; have o14 := o13.trans o4)
      | ((with_reducible refine (G4.out _ o14).mono ?_); rintro e w5 ⟨rfl, o5⟩; have o15 := o14.trans o5)
      | ((with_reducible refine (GA.out _ o15).mono ?_); rintro e wz ⟨rfl, oz⟩))
    go_ret
    exact ⟨rfl, o15.trans oz⟩
  · have h0' : ((M.check l) != 0) = true := by simpa using h0
    clear hm ht hb hE hv hs hl
    generalize M.check l = x at *
    go_enter Tryz.func8, Tryz.ntmps8
    go_wp2_with (first
      | ((with_reducible refine G0.out.mono ?_); rintro e w1 ⟨rfl, o1⟩)
      | ((with_reducible refine (GA.out _ o1).mono ?_); rintro e wz ⟨rfl, oz⟩))
    go_ret
    exact ⟨rfl, o1.trans oz⟩

set_option maxRecDepth 100000 in
theorem treeDigests_open {H : Type} {enc : TypeId × Value → H} {Q : Ending → World → Prop} (W : World) (base : Nat) (args : Array Value) (ds : List (DataW H)) (p : List MemPlace) (hsh : W.ShapedOpen Tryz.prog) (hL : laidMetH Tryz.prog Rows.treeDigestsRow.laid W)
    (hval : ∀ (j : Nat) t v, (#[22] : Array TypeId)[j]? = some t → args[j]? = some v → Value.okWide Tryz.prog W .any base t v)
    (hA : DataW.TrodAll enc Tryz.prog W 0 (fun _ => true) true [22] args.toList ds p) (fin : ds.length = 1 → ∀ (e : Ending) (W' : World), e = .returned (.bool true) ∧ Old W W' → Q e W') :
    Calls Tryz.prog 8 args W Q := by
  have f_sh := mx_of hsh
  rw [MakeChecks.laidMetH_plain _ _ _ (by kernel_rfl)] at hL
  have ft := tab_of hL (by simp [Rows.treeDigestsRow])
  have f_tabs_of := tabs_of hL (by simp [Rows.treeDigestsRow]) (by simp [Rows.treeDigestsRow])
  obtain ⟨v0, d0, rfl, rfl, hd0⟩ := trodAll_one hA
  obtain ⟨l0, hv0, hl0, hs0⟩ := open_files Tryz.underlying22 (hval 0 22 v0 rfl rfl) hd0
  exact (treeDigests_walk W v0 l0 hv0 hl0 hs0 f_sh ft f_tabs_of).mono (fin rfl)
theorem treeDigests_params : Tryz.f8.params = #[22] := rfl
theorem treeDigests_door (os : Os) (args : Array Value) : laidMetH Tryz.prog Rows.treeDigestsRow.laid ((World.laidAll Tryz.prog os Rows.treeDigestsRow.laid).forCall (fun _ _ => 0) ⟨#[], args, []⟩).memory := by
  rw [MakeChecks.laidMetH_plain _ _ _ (by kernel_rfl)]
  exact laidMet_laidAll _ (by kernel_rfl) (by kernel_rfl)
theorem treeDigests_fn {H : Type} (ds : List (DataW H)) (h : ds.length = 1) : Rows.treeDigestsSpec.fn H ds = { results := [.lit (.bool true)], args := ds } := by
  match ds, h with
  | [_], _ => rfl
theorem treeDigests_reads : ∀ t ∈ Tryz.f8.params.toList, Tryz.prog.readableRec t = true ∧ t < Tryz.prog.types.size := by
  rw [treeDigests_params]; intro t ht; simp at ht; subst ht; exact ⟨by kernel_rfl, of_decide_eq_true (by kernel_rfl)⟩
set_option maxRecDepth 100000 in
theorem treeDigests_lifted (os : Os) (started : os.Started) (H : Type) (enc : TypeId × Value → H) :
    ReturnsInHanded {} Tryz.checked os 8 .any (fun w args => (Rows.treeDigestsSpec.pre enc Tryz.prog Tryz.f8 [] false w args ∧ laidMetH Tryz.prog Rows.treeDigestsRow.laid w) ∧ sizedMet enc Tryz.prog Tryz.f8 (OpenSpec.ofChange Rows.treeDigestsSpec) false w args)
      (Rows.treeDigestsSpec.post enc Tryz.prog Tryz.f8 false true false false) := by
  refine handed_shaped (X := fun w => laidMetH Tryz.prog Rows.treeDigestsRow.laid w) (fun _ _ hh h => h.of_heap hh) started (by kernel_rfl) Tryz.func8
    (ChangeSpec.witness_shaped (enc := enc) (C := Tryz.checked) (os := os) (X := fun w _ => laidMetH Tryz.prog Rows.treeDigestsRow.laid w) false (World.laidAll Tryz.prog os Rows.treeDigestsRow.laid) #[.slice none 0 0] 8 (World.laidAll_os _ _ _) (World.shaped_of_ZipB (by kernel_rfl) (by kernel_rfl)) (by kernel_rfl) (by kernel_rfl) (by kernel_rfl) (treeDigests_door os _)) ?_
  intro W base args ds gs before hval0 hW hL hX
  have hval : ∀ (j : Nat) t v, Tryz.f8.params[j]? = some t → args[j]? = some v → Value.okWide Tryz.prog W .any base t v := hval0
  have hW' := hW
  obtain ⟨p, q, hA0, hV, hbef, hfz, hnd⟩ := hW
  have hA : DataW.TrodAll enc Tryz.prog W 0 (fun _ => true) true Tryz.f8.params.toList args.toList ds p := hA0
  have hgs : gs = [] := by cases gs with | nil => rfl | cons g r => exact absurd hV (by intro h; cases h)
  subst hgs
  have fin : ds.length = 1 → ∀ (e : Ending) (W' : World), e = .returned (.bool true) ∧ Old W W' → ∃ v, e = .returned v ∧ Rows.treeDigestsSpec.post enc Tryz.prog Tryz.f8 false true false false W args v W' := by
    rintro hd e W' ⟨rfl, hb⟩
    exact ⟨_, rfl, law_post hW' rfl treeDigests_reads rfl (by rw [List.append_nil]; exact treeDigests_fn ds hd) hb⟩
  rw [treeDigests_params] at hA hval
  exact treeDigests_open W base args ds p hL hX hval hA fin

theorem treeDigests_holds : Rows.TreeDigestsSaid :=
  OpenClaim.holds_of_wide 8 Tryz.f8 rfl rfl rfl rfl rfl rfl rfl ⟨rfl, rfl, rfl, rfl, rfl⟩ rfl rfl rfl rfl rfl (by kernel_rfl) Tryz.func8 (by kernel_rfl)
    (of_decide_eq_true (by kernel_rfl)) (by unfold Func.isWrapper; first | (rw [if_pos (by decide +kernel)]; kernel_rfl) | (rw [if_neg (by decide +kernel)]; exact ⟨rfl, rfl⟩))
    (fun os started H enc _ => treeDigests_lifted os started H enc)
theorem treeDigests_card : Rows.TreeDigestsCardSaid :=
  Claim7.holds_tied_plain_at .later [] Rows.treeDigestsCard.laidKinds true Rows.treeDigestsCard.stood.harness Rows.treeDigestsCard.stood.looks
    treeDigests_holds (fun _ h => by cases h) (by kernel_rfl) (fun _ h => by cases h) treeDigests_row_tie rfl ⟨rfl, rfl⟩ (by kernel_rfl) rfl
    (fun f fn hf hfn => by
      obtain rfl : f = 8 := Option.some.inj ((show Tryz.prog.funcNamed Rows.treeDigestsRow.func = some 8 by kernel_rfl).symm.trans hf) |>.symm
      obtain rfl : fn = Tryz.f8 := (Option.some.inj (Tryz.func8.symm.trans hfn)).symm
      exact ⟨by kernel_rfl, fun j t ht => by
        rw [treeDigests_params] at ht
        have hm : t ∈ [22] := by simpa using Array.mem_of_getElem? ht
        have hall : ([22].all fun u => !Tryz.prog.wantsStandIn u) = true := by kernel_rfl
        exact (show Tryz.prog.wantsStandIn t = false by simpa using List.all_eq_true.1 hall t hm)⟩)
    (by kernel_rfl)
#print axioms treeDigests_card
end Go.Proofs.YtabcobadglgfkaaGreatDoor
