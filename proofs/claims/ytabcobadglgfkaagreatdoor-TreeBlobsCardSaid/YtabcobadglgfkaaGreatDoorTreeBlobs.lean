/- The law TreeBlobs returns true at every list of files: what is needed to have up to forty files again is what the document says, and the chapter's examples hold. Conditions: the row's own (the listed variables hold what the program's text lays). -/
import Derived.Test.YtabcobadglgfkaaGreatDoorMT11
import Derived.Test.YtabcobadglgfkaaGreatDoorMB4
import Derived.Test.YtabcobadglgfkaaGreatDoorMT1
import Derived.Test.YtabcobadglgfkaaGreatDoorCards
import Derived.Test.YtabcobadglgfkaaGreatDoorTie
namespace Go.Proofs.YtabcobadglgfkaaGreatDoor
open Go.ChangeShapes Go.WideShapes Go.ChangeAt Go.ChangeMaps Go.RowKit

set_option maxHeartbeats 2000000 in
set_option maxRecDepth 100000 in
theorem treeBlobs_walk (w : World) (v : Value) (l : List M.Fi) (hv : Fl w v l) (hl : l.length ≤ maxLen) (_ : ∀ f, f ∈ l → f.1.length ≤ maxLen ∧ f.2.length ≤ maxLen) (hm : Mx w) (ht : Tab w) (hb : Tabs w) :
    Calls Tryz.prog 6 #[v] w fun e w' => e = .returned (.bool true) ∧ Old w w' := by
  have hE := env_of hm ht hb
  have G0 := Lib.hid (fewT_any v l w hv hl)
  have GA := Lib.hid (fun w1 (h : Old w w1) => awake_any w1 (hE.old h))
  have O0 := Lib.hid (Below.refl w.heap.size w)
  by_cases hf : fewT l = true
  · have hls := fewT_less hf
    rw [hf] at G0
    have hbl : (M.blobs l).length ≤ maxLen := by
      have h1 := M.setOf_len (l.map (·.2) ++ M.dirBlobs (M.all l))
      have h2 := less_all hls
      have h3 := dirBlobs_len (M.all l)
      rw [List.length_append, List.length_map] at h1
      have h4 := hls.1
      unfold M.blobs maxLen
      omega
    have G1 := Lib.hid (blobs_any l v w hE hv hls)
    have G2 := Lib.hid (fun w1 (h : Old w w1) => rblobs_any press_any l v w1 hls (hv.old h))
    have G3 := Lib.hid (fun v1 v2 w1 (h1 : Sl w1.heap.size w1 v1 ((M.blobs l).map vstr)) (h2 : Tl w1 v2 (M.blobs l)) => textsT_any v1 v2 (M.blobs l) w1 h1 h2 hbl)
    clear hm ht hb hE hv hls hf hl hbl
    generalize M.blobs l = x at *
    go_enter Tryz.func6, Tryz.ntmps6
    go_wp2_with (first
      | ((with_reducible refine G0.out.mono ?_); rintro e w0 ⟨rfl, hw⟩; obtain rfl := hw)
      | ((with_reducible refine G1.out.mono ?_); rintro e w1 ⟨u1, rfl, hu1, o1⟩)
      | ((with_reducible refine (G2.out _ o1).mono ?_); rintro e w2 ⟨u2, rfl, hu2, o2⟩; have o12 := o1.trans o2)
      | ((with_reducible refine (G3.out u1 u2 _ ((hu1.below o2).mono o2.size) hu2).mono ?_); rintro e w3 ⟨rfl, n, rfl⟩; have o13 := o12.trans (Old.drewN w2 n))
      | ((with_reducible refine (GA.out _ o13).mono ?_); rintro e wz ⟨rfl, oz⟩))
    go_ret
    exact ⟨rfl, o13.trans oz⟩
  · rw [Bool.not_eq_true] at hf
    rw [hf] at G0
    clear hm ht hb hE hv hf hl
    go_enter Tryz.func6, Tryz.ntmps6
    go_wp2_with (first
      | ((with_reducible refine G0.out.mono ?_); rintro e w0 ⟨rfl, hw⟩; obtain rfl := hw)
      | ((with_reducible refine (GA.out _ O0.out).mono ?_); rintro e wz ⟨rfl, oz⟩))
    go_ret
    exact ⟨rfl, oz⟩

set_option maxRecDepth 100000 in
theorem treeBlobs_open {H : Type} {enc : TypeId × Value → H} {Q : Ending → World → Prop} (W : World) (base : Nat) (args : Array Value) (ds : List (DataW H)) (p : List MemPlace) (hsh : W.ShapedOpen Tryz.prog) (hL : laidMetH Tryz.prog Rows.treeBlobsRow.laid W)
    (hval : ∀ (j : Nat) t v, (#[22] : Array TypeId)[j]? = some t → args[j]? = some v → Value.okWide Tryz.prog W .any base t v)
    (hA : DataW.TrodAll enc Tryz.prog W 0 (fun _ => true) true [22] args.toList ds p) (fin : ds.length = 1 → ∀ (e : Ending) (W' : World), e = .returned (.bool true) ∧ Old W W' → Q e W') :
    Calls Tryz.prog 6 args W Q := by
  have f_sh := mx_of hsh
  rw [MakeChecks.laidMetH_plain _ _ _ (by kernel_rfl)] at hL
  have ft := tab_of hL (by simp [Rows.treeBlobsRow])
  have f_tabs_of := tabs_of hL (by simp [Rows.treeBlobsRow]) (by simp [Rows.treeBlobsRow])
  obtain ⟨v0, d0, rfl, rfl, hd0⟩ := trodAll_one hA
  obtain ⟨l0, hv0, hl0, hs0⟩ := open_files Tryz.underlying22 (hval 0 22 v0 rfl rfl) hd0
  exact (treeBlobs_walk W v0 l0 hv0 hl0 hs0 f_sh ft f_tabs_of).mono (fin rfl)
theorem treeBlobs_params : Tryz.f6.params = #[22] := rfl
theorem treeBlobs_door (os : Os) (args : Array Value) : laidMetH Tryz.prog Rows.treeBlobsRow.laid ((World.laidAll Tryz.prog os Rows.treeBlobsRow.laid).forCall (fun _ _ => 0) ⟨#[], args, []⟩).memory := by
  rw [MakeChecks.laidMetH_plain _ _ _ (by kernel_rfl)]
  exact laidMet_laidAll _ (by kernel_rfl) (by kernel_rfl)
theorem treeBlobs_fn {H : Type} (ds : List (DataW H)) (h : ds.length = 1) : Rows.treeBlobsSpec.fn H ds = { results := [.lit (.bool true)], args := ds } := by
  match ds, h with
  | [_], _ => rfl
theorem treeBlobs_reads : ∀ t ∈ Tryz.f6.params.toList, Tryz.prog.readableRec t = true ∧ t < Tryz.prog.types.size := by
  rw [treeBlobs_params]; intro t ht; simp at ht; subst ht; exact ⟨by kernel_rfl, of_decide_eq_true (by kernel_rfl)⟩
set_option maxRecDepth 100000 in
theorem treeBlobs_lifted (os : Os) (started : os.Started) (H : Type) (enc : TypeId × Value → H) :
    ReturnsInHanded {} Tryz.checked os 6 .any (fun w args => (Rows.treeBlobsSpec.pre enc Tryz.prog Tryz.f6 [] false w args ∧ laidMetH Tryz.prog Rows.treeBlobsRow.laid w) ∧ sizedMet enc Tryz.prog Tryz.f6 (OpenSpec.ofChange Rows.treeBlobsSpec) false w args)
      (Rows.treeBlobsSpec.post enc Tryz.prog Tryz.f6 false true false false) := by
  refine handed_shaped (X := fun w => laidMetH Tryz.prog Rows.treeBlobsRow.laid w) (fun _ _ hh h => h.of_heap hh) started (by kernel_rfl) Tryz.func6
    (ChangeSpec.witness_shaped (enc := enc) (C := Tryz.checked) (os := os) (X := fun w _ => laidMetH Tryz.prog Rows.treeBlobsRow.laid w) false (World.laidAll Tryz.prog os Rows.treeBlobsRow.laid) #[.slice none 0 0] 8 (World.laidAll_os _ _ _) (World.shaped_of_ZipB (by kernel_rfl) (by kernel_rfl)) (by kernel_rfl) (by kernel_rfl) (by kernel_rfl) (treeBlobs_door os _)) ?_
  intro W base args ds gs before hval0 hW hL hX
  have hval : ∀ (j : Nat) t v, Tryz.f6.params[j]? = some t → args[j]? = some v → Value.okWide Tryz.prog W .any base t v := hval0
  have hW' := hW
  obtain ⟨p, q, hA0, hV, hbef, hfz, hnd⟩ := hW
  have hA : DataW.TrodAll enc Tryz.prog W 0 (fun _ => true) true Tryz.f6.params.toList args.toList ds p := hA0
  have hgs : gs = [] := by cases gs with | nil => rfl | cons g r => exact absurd hV (by intro h; cases h)
  subst hgs
  have fin : ds.length = 1 → ∀ (e : Ending) (W' : World), e = .returned (.bool true) ∧ Old W W' → ∃ v, e = .returned v ∧ Rows.treeBlobsSpec.post enc Tryz.prog Tryz.f6 false true false false W args v W' := by
    rintro hd e W' ⟨rfl, hb⟩
    exact ⟨_, rfl, law_post hW' rfl treeBlobs_reads rfl (by rw [List.append_nil]; exact treeBlobs_fn ds hd) hb⟩
  rw [treeBlobs_params] at hA hval
  exact treeBlobs_open W base args ds p hL hX hval hA fin

theorem treeBlobs_holds : Rows.TreeBlobsSaid :=
  OpenClaim.holds_of_wide 6 Tryz.f6 rfl rfl rfl rfl rfl rfl rfl ⟨rfl, rfl, rfl, rfl, rfl⟩ rfl rfl rfl rfl rfl (by kernel_rfl) Tryz.func6 (by kernel_rfl)
    (of_decide_eq_true (by kernel_rfl)) (by unfold Func.isWrapper; first | (rw [if_pos (by decide +kernel)]; kernel_rfl) | (rw [if_neg (by decide +kernel)]; exact ⟨rfl, rfl⟩))
    (fun os started H enc _ => treeBlobs_lifted os started H enc)
theorem treeBlobs_card : Rows.TreeBlobsCardSaid :=
  Claim7.holds_tied_plain_at .later [] Rows.treeBlobsCard.laidKinds true Rows.treeBlobsCard.stood.harness Rows.treeBlobsCard.stood.looks
    treeBlobs_holds (fun _ h => by cases h) (by kernel_rfl) (fun _ h => by cases h) treeBlobs_row_tie rfl ⟨rfl, rfl⟩ (by kernel_rfl) rfl
    (fun f fn hf hfn => by
      obtain rfl : f = 6 := Option.some.inj ((show Tryz.prog.funcNamed Rows.treeBlobsRow.func = some 6 by kernel_rfl).symm.trans hf) |>.symm
      obtain rfl : fn = Tryz.f6 := (Option.some.inj (Tryz.func6.symm.trans hfn)).symm
      exact ⟨by kernel_rfl, fun j t ht => by
        rw [treeBlobs_params] at ht
        have hm : t ∈ [22] := by simpa using Array.mem_of_getElem? ht
        have hall : ([22].all fun u => !Tryz.prog.wantsStandIn u) = true := by kernel_rfl
        exact (show Tryz.prog.wantsStandIn t = false by simpa using List.all_eq_true.1 hall t hm)⟩)
    (by kernel_rfl)
#print axioms treeBlobs_card
end Go.Proofs.YtabcobadglgfkaaGreatDoor
