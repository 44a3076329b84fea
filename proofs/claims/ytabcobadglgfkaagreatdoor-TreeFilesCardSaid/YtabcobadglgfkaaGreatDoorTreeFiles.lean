/- The law TreeFiles returns true at every digest and every list of blobs: which files a digest is of among up to a hundred blobs, or what is wrong first, is what the document says, and the chapter's examples hold. Conditions: the row's own (the listed variables hold what the program's text lays). -/
import Derived.Test.YtabcobadglgfkaaGreatDoorMT14
import Derived.Test.YtabcobadglgfkaaGreatDoorMB4
import Derived.Test.YtabcobadglgfkaaGreatDoorMF3
import Derived.Test.YtabcobadglgfkaaGreatDoorMC2
import Derived.Test.YtabcobadglgfkaaGreatDoorMT1
import Derived.Test.YtabcobadglgfkaaGreatDoorCards
import Derived.Test.YtabcobadglgfkaaGreatDoorTie
namespace Go.Proofs.YtabcobadglgfkaaGreatDoor
open Go.ChangeShapes Go.WideShapes Go.ChangeAt Go.ChangeMaps Go.RowKit

set_option maxHeartbeats 2000000 in
set_option maxRecDepth 100000 in
theorem treeFiles_walk (w : World) (s : ByteArray) (hs : s.size ≤ maxLen) (v : Value) (l : List (List UInt8)) (hv : Sl w.heap.size w v (l.map vstr)) (hl : l.length ≤ maxLen) (_ : ∀ s ∈ l, s.length ≤ maxLen) (hm : Mx w) (ht : Tab w) (hb : Tabs w) :
    Calls Tryz.prog 7 #[.string s, v] w fun e w' => e = .returned (.bool true) ∧ Old w w' := by
  obtain ⟨⟨s⟩⟩ := s
  rw [size_mk] at hs
  have hE := env_of hm ht hb
  have G0 := Lib.hid (someT_any v l w hv hl)
  have GA := Lib.hid (fun w1 (h : Old w w1) => awake_any w1 (hE.old h))
  have O0 := Lib.hid (Below.refl w.heap.size w)
  by_cases hf : someT l = true
  · have hfa := someT_fair hf
    rw [hf] at G0
    have HV := Lib.hid hv
    have G2 := Lib.hid (fun w1 (h : Old w w1) => rFiles_any press_any s v l hfa w1 (hE.old h) ((HV.out.below h).mono h.size))
    obtain ⟨p, cap, hvv⟩ := hv.len
    rw [List.length_map] at hvv
    subst hvv
    have G1 := Lib.hid (files_any s p cap l hfa hs w hE hv)
    unfold FilesPost at G1 G2
    have G3 := Lib.hid (fun v1 v2 w1 (h1 : Fl w1 v1 (M.files l s).1) (h2 : Fl w1 v2 (M.files l s).1) (h3 : (M.files l s).1.length ≤ 32) => same_self v1 v2 (M.files l s).1 w1 h1 h2 (by omega))
    clear hm ht hb hE hv hfa hf hl
    generalize M.files l s = x at *
    obtain ⟨xs, xe⟩ := x
    simp only at G1 G2 G3
    go_enter Tryz.func7, Tryz.ntmps7
    go_wp2_with (first
      | ((with_reducible refine G0.out.mono ?_); rintro e w0 ⟨rfl, hw⟩; obtain rfl := hw)
      | ((with_reducible refine G1.out.mono ?_); rintro e w1 ⟨u1, rfl, hu1, hx1, o1⟩)
      | ((with_reducible refine (G2.out _ o1).mono ?_); rintro e w2 ⟨u2, rfl, hu2, hx2, o2⟩; have o12 := o1.trans o2)
      | ((with_reducible refine (G3.out u1 u2 _ (hu1.old o2) hu2 hx2).mono ?_); rintro e w3 ⟨rfl, n, rfl⟩; have o13 := o12.trans (Old.drewN w2 n))
      | ((with_reducible refine (GA.out _ o13).mono ?_); rintro e wz ⟨rfl, oz⟩))
    go_ret
    exact ⟨rfl, o13.trans oz⟩
  · rw [Bool.not_eq_true] at hf
    rw [hf] at G0
    clear hm ht hb hE hf hl
    obtain ⟨p, cap, hvv⟩ := hv.len
    rw [List.length_map] at hvv
    subst hvv
    clear hv
    go_enter Tryz.func7, Tryz.ntmps7
    go_wp2_with (first
      | ((with_reducible refine G0.out.mono ?_); rintro e w0 ⟨rfl, hw⟩; obtain rfl := hw)
      | ((with_reducible refine (GA.out _ O0.out).mono ?_); rintro e wz ⟨rfl, oz⟩))
    go_ret
    exact ⟨rfl, oz⟩

set_option maxRecDepth 100000 in
theorem treeFiles_open {H : Type} {enc : TypeId × Value → H} {Q : Ending → World → Prop} (W : World) (base : Nat) (args : Array Value) (ds : List (DataW H)) (p : List MemPlace) (hsh : W.ShapedOpen Tryz.prog) (hL : laidMetH Tryz.prog Rows.treeFilesRow.laid W)
    (hval : ∀ (j : Nat) t v, (#[9, 43] : Array TypeId)[j]? = some t → args[j]? = some v → Value.okWide Tryz.prog W .any base t v)
    (hA : DataW.TrodAll enc Tryz.prog W 0 (fun _ => true) true [9, 43] args.toList ds p) (fin : ds.length = 2 → ∀ (e : Ending) (W' : World), e = .returned (.bool true) ∧ Old W W' → Q e W') :
    Calls Tryz.prog 7 args W Q := by
  have f_sh := mx_of hsh
  rw [MakeChecks.laidMetH_plain _ _ _ (by kernel_rfl)] at hL
  have ft := tab_of hL (by simp [Rows.treeFilesRow])
  have f_tabs_of := tabs_of hL (by simp [Rows.treeFilesRow]) (by simp [Rows.treeFilesRow])
  obtain ⟨v0, v1, d0, d1, p0, p1, rfl, rfl, _, hd0, hd1⟩ := trodAll_two hA
  obtain ⟨s0, rfl, rfl, rfl, hs0⟩ := open_string Tryz.underlying9 (hval 0 9 v0 rfl rfl) hd0
  obtain ⟨l1, hv1, hl1, hs1⟩ := open_texts Tryz.underlying43 (hval 1 43 v1 rfl rfl) hd1
  exact (treeFiles_walk W s0 hs0 v1 l1 hv1 hl1 hs1 f_sh ft f_tabs_of).mono (fin rfl)
theorem treeFiles_params : Tryz.f7.params = #[9, 43] := rfl
theorem treeFiles_door (os : Os) (args : Array Value) : laidMetH Tryz.prog Rows.treeFilesRow.laid ((World.laidAll Tryz.prog os Rows.treeFilesRow.laid).forCall (fun _ _ => 0) ⟨#[], args, []⟩).memory := by
  rw [MakeChecks.laidMetH_plain _ _ _ (by kernel_rfl)]
  exact laidMet_laidAll _ (by kernel_rfl) (by kernel_rfl)
theorem treeFiles_fn {H : Type} (ds : List (DataW H)) (h : ds.length = 2) : Rows.treeFilesSpec.fn H ds = { results := [.lit (.bool true)], args := ds } := by
  match ds, h with
  | [_, _], _ => rfl
theorem treeFiles_reads : ∀ t ∈ Tryz.f7.params.toList, Tryz.prog.readableRec t = true ∧ t < Tryz.prog.types.size := by
  rw [treeFiles_params]; intro t ht; simp at ht; rcases ht with rfl | rfl <;> exact ⟨by kernel_rfl, of_decide_eq_true (by kernel_rfl)⟩
set_option maxRecDepth 100000 in
theorem treeFiles_lifted (os : Os) (started : os.Started) (H : Type) (enc : TypeId × Value → H) :
    ReturnsInHanded {} Tryz.checked os 7 .any (fun w args => (Rows.treeFilesSpec.pre enc Tryz.prog Tryz.f7 [] false w args ∧ laidMetH Tryz.prog Rows.treeFilesRow.laid w) ∧ sizedMet enc Tryz.prog Tryz.f7 (OpenSpec.ofChange Rows.treeFilesSpec) false w args)
      (Rows.treeFilesSpec.post enc Tryz.prog Tryz.f7 false true false false) := by
  refine handed_shaped (X := fun w => laidMetH Tryz.prog Rows.treeFilesRow.laid w) (fun _ _ hh h => h.of_heap hh) started (by kernel_rfl) Tryz.func7
    (ChangeSpec.witness_shaped (enc := enc) (C := Tryz.checked) (os := os) (X := fun w _ => laidMetH Tryz.prog Rows.treeFilesRow.laid w) false (World.laidAll Tryz.prog os Rows.treeFilesRow.laid) #[.string ⟨#[]⟩, .slice none 0 0] 8 (World.laidAll_os _ _ _) (World.shaped_of_ZipB (by kernel_rfl) (by kernel_rfl)) (by kernel_rfl) (by kernel_rfl) (by kernel_rfl) (treeFiles_door os _)) ?_
  intro W base args ds gs before hval0 hW hL hX
  have hval : ∀ (j : Nat) t v, Tryz.f7.params[j]? = some t → args[j]? = some v → Value.okWide Tryz.prog W .any base t v := hval0
  have hW' := hW
  obtain ⟨p, q, hA0, hV, hbef, hfz, hnd⟩ := hW
  have hA : DataW.TrodAll enc Tryz.prog W 0 (fun _ => true) true Tryz.f7.params.toList args.toList ds p := hA0
  have hgs : gs = [] := by cases gs with | nil => rfl | cons g r => exact absurd hV (by intro h; cases h)
  subst hgs
  have fin : ds.length = 2 → ∀ (e : Ending) (W' : World), e = .returned (.bool true) ∧ Old W W' → ∃ v, e = .returned v ∧ Rows.treeFilesSpec.post enc Tryz.prog Tryz.f7 false true false false W args v W' := by
    rintro hd e W' ⟨rfl, hb⟩
    exact ⟨_, rfl, law_post hW' rfl treeFiles_reads rfl (by rw [List.append_nil]; exact treeFiles_fn ds hd) hb⟩
  rw [treeFiles_params] at hA hval
  exact treeFiles_open W base args ds p hL hX hval hA fin

theorem treeFiles_holds : Rows.TreeFilesSaid :=
  OpenClaim.holds_of_wide 7 Tryz.f7 rfl rfl rfl rfl rfl rfl rfl ⟨rfl, rfl, rfl, rfl, rfl⟩ rfl rfl rfl rfl rfl (by kernel_rfl) Tryz.func7 (by kernel_rfl)
    (of_decide_eq_true (by kernel_rfl)) (by unfold Func.isWrapper; first | (rw [if_pos (by decide +kernel)]; kernel_rfl) | (rw [if_neg (by decide +kernel)]; exact ⟨rfl, rfl⟩))
    (fun os started H enc _ => treeFiles_lifted os started H enc)
theorem treeFiles_card : Rows.TreeFilesCardSaid :=
  Claim7.holds_tied_plain_at .later [] Rows.treeFilesCard.laidKinds true Rows.treeFilesCard.stood.harness Rows.treeFilesCard.stood.looks
    treeFiles_holds (fun _ h => by cases h) (by kernel_rfl) (fun _ h => by cases h) treeFiles_row_tie rfl ⟨rfl, rfl⟩ (by kernel_rfl) rfl
    (fun f fn hf hfn => by
      obtain rfl : f = 7 := Option.some.inj ((show Tryz.prog.funcNamed Rows.treeFilesRow.func = some 7 by kernel_rfl).symm.trans hf) |>.symm
      obtain rfl : fn = Tryz.f7 := (Option.some.inj (Tryz.func7.symm.trans hfn)).symm
      exact ⟨by kernel_rfl, fun j t ht => by
        rw [treeFiles_params] at ht
        have hm : t ∈ [9, 43] := by simpa using Array.mem_of_getElem? ht
        have hall : ([9, 43].all fun u => !Tryz.prog.wantsStandIn u) = true := by kernel_rfl
        exact (show Tryz.prog.wantsStandIn t = false by simpa using List.all_eq_true.1 hall t hm)⟩)
    (by kernel_rfl)
#print axioms treeFiles_card
end Go.Proofs.YtabcobadglgfkaaGreatDoor
