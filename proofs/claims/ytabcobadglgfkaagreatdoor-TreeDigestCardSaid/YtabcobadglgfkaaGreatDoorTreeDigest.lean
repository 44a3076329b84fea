/- The law TreeDigest returns true at every list of files: the digest of up to forty files is the document's, and the chapter's examples hold. Conditions: the row's own (the listed variables hold what the program's text lays). -/
import Derived.Test.YtabcobadglgfkaaGreatDoorMT10
import Derived.Test.YtabcobadglgfkaaGreatDoorMB4
import Derived.Test.YtabcobadglgfkaaGreatDoorMT1
import Derived.Test.YtabcobadglgfkaaGreatDoorCards
import Derived.Test.YtabcobadglgfkaaGreatDoorTie
namespace Go.Proofs.YtabcobadglgfkaaGreatDoor
open Go.ChangeShapes Go.WideShapes Go.ChangeAt Go.ChangeMaps Go.RowKit

set_option maxHeartbeats 2000000 in
set_option maxRecDepth 100000 in
theorem treeDigest_walk (w : World) (v : Value) (l : List M.Fi) (hv : Fl w v l) (hl : l.length ≤ maxLen) (_ : ∀ f, f ∈ l → f.1.length ≤ maxLen ∧ f.2.length ≤ maxLen) (hm : Mx w) (ht : Tab w) (hb : Tabs w) :
    Calls Tryz.prog 9 #[v] w fun e w' => e = .returned (.bool true) ∧ Old w w' := by
  have hE := env_of hm ht hb
  have G0 := Lib.hid (fewT_any v l w hv hl)
  have GA := Lib.hid (fun w1 (h : Old w w1) => awake_any w1 (hE.old h))
  have O0 := Lib.hid (Below.refl w.heap.size w)
  by_cases hf : fewT l = true
  · have hls := fewT_less hf
    rw [hf] at G0
    have G1 := Lib.hid (fdigest_any l v w hE hv hls.tame)
    have G2 := Lib.hid (fun w1 (h : Old w w1) => rDigest_any press_any l v w1 hls (hv.old h))
    clear hm ht hb hE hv hls hf hl
    generalize M.digest' l = x at *
    go_enter Tryz.func9, Tryz.ntmps9
    go_wp2_with (first
      | ((with_reducible refine G0.out.mono ?_); rintro e w0 ⟨rfl, hw⟩; obtain rfl := hw)
      | ((with_reducible refine G1.out.mono ?_); rintro e w1 ⟨rfl, o1⟩)
      | ((with_reducible refine (G2.out _ o1).mono ?_); rintro e w2 ⟨rfl, o2⟩; have o12 := o1.trans o2)
      | ((with_reducible refine (GA.out _ o12).mono ?_); rintro e wz ⟨rfl, oz⟩))
    go_ret
    exact ⟨rfl, o12.trans oz⟩
  · rw [Bool.not_eq_true] at hf
    rw [hf] at G0
    clear hm ht hb hE hv hf hl
    go_enter Tryz.func9, Tryz.ntmps9
    go_wp2_with (first
      | ((with_reducible refine G0.out.mono ?_); rintro e w0 ⟨rfl, hw⟩; obtain rfl := hw)
      | ((with_reducible refine (GA.out _ O0.out).mono ?_); rintro e wz ⟨rfl, oz⟩))
    go_ret
    exact ⟨rfl, oz⟩

set_option maxRecDepth 100000 in
theorem treeDigest_open {H : Type} {enc : TypeId × Value → H} {Q : Ending → World → Prop} (W : World) (base : Nat) (args : Array Value) (ds : List (DataW H)) (p : List MemPlace) (hsh : W.ShapedOpen Tryz.prog) (hL : laidMetH Tryz.prog Rows.treeDigestRow.laid W)
    (hval : ∀ (j : Nat) t v, (#[22] : Array TypeId)[j]? = some t → args[j]? = some v → Value.okWide Tryz.prog W .any base t v)
    (hA : DataW.TrodAll enc Tryz.prog W 0 (fun _ => true) true [22] args.toList ds p) (fin : ds.length = 1 → ∀ (e : Ending) (W' : World), e = .returned (.bool true) ∧ Old W W' → Q e W') :
    Calls Tryz.prog 9 args W Q := by
  have f_sh := mx_of hsh
  rw [MakeChecks.laidMetH_plain _ _ _ (by kernel_rfl)] at hL
  have ft := tab_of hL (by simp [Rows.treeDigestRow])
  have f_tabs_of := tabs_of hL (by simp [Rows.treeDigestRow]) (by simp [Rows.treeDigestRow])
  obtain ⟨v0, d0, rfl, rfl, hd0⟩ := trodAll_one hA
  obtain ⟨l0, hv0, hl0, hs0⟩ := open_files Tryz.underlying22 (hval 0 22 v0 rfl rfl) hd0
  exact (treeDigest_walk W v0 l0 hv0 hl0 hs0 f_sh ft f_tabs_of).mono (fin rfl)
theorem treeDigest_params : Tryz.f9.params = #[22] := rfl
theorem treeDigest_door (os : Os) (args : Array Value) : laidMetH Tryz.prog Rows.treeDigestRow.laid ((World.laidAll Tryz.prog os Rows.treeDigestRow.laid).forCall (fun _ _ => 0) ⟨#[], args, []⟩).memory := by
  rw [MakeChecks.laidMetH_plain _ _ _ (by kernel_rfl)]
  exact laidMet_laidAll _ (by kernel_rfl) (by kernel_rfl)
theorem treeDigest_fn {H : Type} (ds : List (DataW H)) (h : ds.length = 1) : Rows.treeDigestSpec.fn H ds = { results := [.lit (.bool true)], args := ds } := by
  match ds, h with
  | [_], _ => rfl
theorem treeDigest_reads : ∀ t ∈ Tryz.f9.params.toList, Tryz.prog.readableRec t = true ∧ t < Tryz.prog.types.size := by
  rw [treeDigest_params]; intro t ht; simp at ht; subst ht; exact ⟨by kernel_rfl, of_decide_eq_true (by kernel_rfl)⟩
set_option maxRecDepth 100000 in
theorem treeDigest_lifted (os : Os) (started : os.Started) (H : Type) (enc : TypeId × Value → H) :
    ReturnsInHanded {} Tryz.checked os 9 .any (fun w args => (Rows.treeDigestSpec.pre enc Tryz.prog Tryz.f9 [] false w args ∧ laidMetH Tryz.prog Rows.treeDigestRow.laid w) ∧ sizedMet enc Tryz.prog Tryz.f9 (OpenSpec.ofChange Rows.treeDigestSpec) false w args)
      (Rows.treeDigestSpec.post enc Tryz.prog Tryz.f9 false true false false) := by
  refine handed_shaped (X := fun w => laidMetH Tryz.prog Rows.treeDigestRow.laid w) (fun _ _ hh h => h.of_heap hh) started (by kernel_rfl) Tryz.func9
    (ChangeSpec.witness_shaped (enc := enc) (C := Tryz.checked) (os := os) (X := fun w _ => laidMetH Tryz.prog Rows.treeDigestRow.laid w) false (World.laidAll Tryz.prog os Rows.treeDigestRow.laid) #[.slice none 0 0] 8 (World.laidAll_os _ _ _) (World.shaped_of_ZipB (by kernel_rfl) (by kernel_rfl)) (by kernel_rfl) (by kernel_rfl) (by kernel_rfl) (treeDigest_door os _)) ?_
  intro W base args ds gs before hval0 hW hL hX
  have hval : ∀ (j : Nat) t v, Tryz.f9.params[j]? = some t → args[j]? = some v → Value.okWide Tryz.prog W .any base t v := hval0
  have hW' := hW
  obtain ⟨p, q, hA0, hV, hbef, hfz, hnd⟩ := hW
  have hA : DataW.TrodAll enc Tryz.prog W 0 (fun _ => true) true Tryz.f9.params.toList args.toList ds p := hA0
  have hgs : gs = [] := by cases gs with | nil => rfl | cons g r => exact absurd hV (by intro h; cases h)
  subst hgs
  have fin : ds.length = 1 → ∀ (e : Ending) (W' : World), e = .returned (.bool true) ∧ Old W W' → ∃ v, e = .returned v ∧ Rows.treeDigestSpec.post enc Tryz.prog Tryz.f9 false true false false W args v W' := by
    rintro hd e W' ⟨rfl, hb⟩
    exact ⟨_, rfl, law_post hW' rfl treeDigest_reads rfl (by rw [List.append_nil]; exact treeDigest_fn ds hd) hb⟩
  rw [treeDigest_params] at hA hval
  exact treeDigest_open W base args ds p hL hX hval hA fin

theorem treeDigest_holds : Rows.TreeDigestSaid :=
  OpenClaim.holds_of_wide 9 Tryz.f9 rfl rfl rfl rfl rfl rfl rfl ⟨rfl, rfl, rfl, rfl, rfl⟩ rfl rfl rfl rfl rfl (by kernel_rfl) Tryz.func9 (by kernel_rfl)
    (of_decide_eq_true (by kernel_rfl)) (by unfold Func.isWrapper; first | (rw [if_pos (by decide +kernel)]; kernel_rfl) | (rw [if_neg (by decide +kernel)]; exact ⟨rfl, rfl⟩))
    (fun os started H enc _ => treeDigest_lifted os started H enc)
theorem treeDigest_card : Rows.TreeDigestCardSaid :=
  Claim7.holds_tied_plain_at .later [] Rows.treeDigestCard.laidKinds true Rows.treeDigestCard.stood.harness Rows.treeDigestCard.stood.looks
    treeDigest_holds (fun _ h => by cases h) (by kernel_rfl) (fun _ h => by cases h) treeDigest_row_tie rfl ⟨rfl, rfl⟩ (by kernel_rfl) rfl
    (fun f fn hf hfn => by
      obtain rfl : f = 9 := Option.some.inj ((show Tryz.prog.funcNamed Rows.treeDigestRow.func = some 9 by kernel_rfl).symm.trans hf) |>.symm
      obtain rfl : fn = Tryz.f9 := (Option.some.inj (Tryz.func9.symm.trans hfn)).symm
      exact ⟨by kernel_rfl, fun j t ht => by
        rw [treeDigest_params] at ht
        have hm : t ∈ [22] := by simpa using Array.mem_of_getElem? ht
        have hall : ([22].all fun u => !Tryz.prog.wantsStandIn u) = true := by kernel_rfl
        exact (show Tryz.prog.wantsStandIn t = false by simpa using List.all_eq_true.1 hall t hm)⟩)
    (by kernel_rfl)
#print axioms treeDigest_card
end Go.Proofs.YtabcobadglgfkaaGreatDoor
