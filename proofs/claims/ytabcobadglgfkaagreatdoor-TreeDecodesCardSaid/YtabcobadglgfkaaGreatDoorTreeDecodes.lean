/- The law TreeDecodes returns true at every text: the entries that up to 20000 bytes are, are the document's, and so is the error, and the chapter's examples hold. Conditions: the row's own (the listed variables hold what the program's text lays). -/
import Derived.Test.YtabcobadglgfkaaGreatDoorMT7
import Derived.Test.YtabcobadglgfkaaGreatDoorMT1
import Derived.Test.YtabcobadglgfkaaGreatDoorCards
import Derived.Test.YtabcobadglgfkaaGreatDoorTie
namespace Go.Proofs.YtabcobadglgfkaaGreatDoor
open Go.ChangeShapes Go.WideShapes Go.ChangeAt Go.ChangeMaps Go.RowKit

noncomputable def decErr (d : List UInt8) : Int := match M.decode d with | some _ => 0 | none => 11
theorem DecPost.plain {d : List UInt8} {w w' : World} {e : Ending} (h : DecPost d w e w') : ∃ u, e = .returned (.tuple #[u, .int .i64 (decErr d)]) ∧ El w' u ((M.decode d).getD []) ∧ Old w w' := by
  obtain ⟨u, h1, h2, _, h3⟩ := h
  exact ⟨u, h1, h2, h3⟩
set_option maxHeartbeats 4000000 in
set_option maxRecDepth 100000 in
theorem treeDecodes_walk (w : World) (s : ByteArray) (_ : s.size ≤ maxLen) (hm : Mx w) (ht : Tab w) (hb : Tabs w) :
    Calls Tryz.prog 5 #[.string s] w fun e w' => e = .returned (.bool true) ∧ Old w w' := by
  obtain ⟨⟨s⟩⟩ := s
  have hE := env_of hm ht hb
  have hsz := size_mk s
  have GA := Lib.hid (fun w1 (h : Old w w1) => awake_any w1 (hE.old h))
  by_cases hbig : 20000 < s.length
  · have O0 := Lib.hid (Below.refl w.heap.size w)
    clear hm ht hb hE
    go_enter Tryz.func5, Tryz.ntmps5
    go_wp2_with ((with_reducible refine (GA.out _ O0.out).mono ?_); rintro e wz ⟨rfl, oz⟩)
    go_ret
    exact ⟨rfl, oz⟩
  · have G1 := Lib.hid ((decode_any s w hE.tab hE.mx (by omega)).mono fun _ _ h => h.plain)
    have G2 := Lib.hid (fun w1 => (rdecode_any s w1 (by omega)).mono fun _ _ h => h.plain)
    have GE := Lib.hid (fun v1 v2 w1 h1 h2 => entries_any v1 v2 ((M.decode s).getD []) w1 h1 h2 (by
      cases hd : M.decode s with
      | none => exact Nat.zero_le _
      | some es => have := decode_len hd; show es.length ≤ _; unfold maxLen; omega))
    clear hm ht hb hE
    generalize decErr s = x at *
    generalize (M.decode s).getD [] = es at *
    go_enter Tryz.func5, Tryz.ntmps5
    go_wp2_with (first
      | ((with_reducible refine G1.out.mono ?_); rintro e w1 ⟨u1, rfl, h1, o1⟩)
      | ((with_reducible refine (G2.out _).mono ?_); rintro e w2 ⟨u2, rfl, h2, o2⟩; have o12 := o1.trans o2)
      | ((with_reducible refine (GE.out u1 u2 _ (h1.old o2) h2).mono ?_); rintro e w3 ⟨rfl, n, rfl⟩; have o13 := o12.trans (Old.drewN w2 n))
      | ((with_reducible refine (GA.out _ o13).mono ?_); rintro e wz ⟨rfl, oz⟩))
    go_ret
    exact ⟨rfl, o13.trans oz⟩

set_option maxRecDepth 100000 in
theorem treeDecodes_open {H : Type} {enc : TypeId × Value → H} {Q : Ending → World → Prop} (W : World) (base : Nat) (args : Array Value) (ds : List (DataW H)) (p : List MemPlace) (hsh : W.ShapedOpen Tryz.prog) (hL : laidMetH Tryz.prog Rows.treeDecodesRow.laid W)
    (hval : ∀ (j : Nat) t v, (#[9] : Array TypeId)[j]? = some t → args[j]? = some v → Value.okWide Tryz.prog W .any base t v)
    (hA : DataW.TrodAll enc Tryz.prog W 0 (fun _ => true) true [9] args.toList ds p) (fin : ds.length = 1 → ∀ (e : Ending) (W' : World), e = .returned (.bool true) ∧ Old W W' → Q e W') :
    Calls Tryz.prog 5 args W Q := by
  have f_sh := mx_of hsh
  rw [MakeChecks.laidMetH_plain _ _ _ (by kernel_rfl)] at hL
  have ft := tab_of hL (by simp [Rows.treeDecodesRow])
  have f_tabs_of := tabs_of hL (by simp [Rows.treeDecodesRow]) (by simp [Rows.treeDecodesRow])
  obtain ⟨v0, d0, rfl, rfl, hd0⟩ := trodAll_one hA
  obtain ⟨s0, rfl, rfl, rfl, hs0⟩ := open_string Tryz.underlying9 (hval 0 9 v0 rfl rfl) hd0
  exact (treeDecodes_walk W s0 hs0 f_sh ft f_tabs_of).mono (fin rfl)
theorem treeDecodes_params : Tryz.f5.params = #[9] := rfl
theorem treeDecodes_door (os : Os) (args : Array Value) : laidMetH Tryz.prog Rows.treeDecodesRow.laid ((World.laidAll Tryz.prog os Rows.treeDecodesRow.laid).forCall (fun _ _ => 0) ⟨#[], args, []⟩).memory := by
  rw [MakeChecks.laidMetH_plain _ _ _ (by kernel_rfl)]
  exact laidMet_laidAll _ (by kernel_rfl) (by kernel_rfl)
theorem treeDecodes_fn {H : Type} (ds : List (DataW H)) (h : ds.length = 1) : Rows.treeDecodesSpec.fn H ds = { results := [.lit (.bool true)], args := ds } := by
  match ds, h with
  | [_], _ => rfl
theorem treeDecodes_reads : ∀ t ∈ Tryz.f5.params.toList, Tryz.prog.readableRec t = true ∧ t < Tryz.prog.types.size := by
  rw [treeDecodes_params]; intro t ht; simp at ht; subst ht; exact ⟨by kernel_rfl, of_decide_eq_true (by kernel_rfl)⟩
set_option maxRecDepth 100000 in
theorem treeDecodes_lifted (os : Os) (started : os.Started) (H : Type) (enc : TypeId × Value → H) :
    ReturnsInHanded {} Tryz.checked os 5 .any (fun w args => (Rows.treeDecodesSpec.pre enc Tryz.prog Tryz.f5 [] false w args ∧ laidMetH Tryz.prog Rows.treeDecodesRow.laid w) ∧ sizedMet enc Tryz.prog Tryz.f5 (OpenSpec.ofChange Rows.treeDecodesSpec) false w args)
      (Rows.treeDecodesSpec.post enc Tryz.prog Tryz.f5 false true false false) := by
  refine handed_shaped (X := fun w => laidMetH Tryz.prog Rows.treeDecodesRow.laid w) (fun _ _ hh h => h.of_heap hh) started (by kernel_rfl) Tryz.func5
    (ChangeSpec.witness_shaped (enc := enc) (C := Tryz.checked) (os := os) (X := fun w _ => laidMetH Tryz.prog Rows.treeDecodesRow.laid w) false (World.laidAll Tryz.prog os Rows.treeDecodesRow.laid) #[.string ⟨#[]⟩] 8 (World.laidAll_os _ _ _) (World.shaped_of_ZipB (by kernel_rfl) (by kernel_rfl)) (by kernel_rfl) (by kernel_rfl) (by kernel_rfl) (treeDecodes_door os _)) ?_
  intro W base args ds gs before hval0 hW hL hX
  have hval : ∀ (j : Nat) t v, Tryz.f5.params[j]? = some t → args[j]? = some v → Value.okWide Tryz.prog W .any base t v := hval0
  have hW' := hW
  obtain ⟨p, q, hA0, hV, hbef, hfz, hnd⟩ := hW
  have hA : DataW.TrodAll enc Tryz.prog W 0 (fun _ => true) true Tryz.f5.params.toList args.toList ds p := hA0
  have hgs : gs = [] := by cases gs with | nil => rfl | cons g r => exact absurd hV (by intro h; cases h)
  subst hgs
  have fin : ds.length = 1 → ∀ (e : Ending) (W' : World), e = .returned (.bool true) ∧ Old W W' → ∃ v, e = .returned v ∧ Rows.treeDecodesSpec.post enc Tryz.prog Tryz.f5 false true false false W args v W' := by
    rintro hd e W' ⟨rfl, hb⟩
    exact ⟨_, rfl, law_post hW' rfl treeDecodes_reads rfl (by rw [List.append_nil]; exact treeDecodes_fn ds hd) hb⟩
  rw [treeDecodes_params] at hA hval
  exact treeDecodes_open W base args ds p hL hX hval hA fin

theorem treeDecodes_holds : Rows.TreeDecodesSaid :=
  OpenClaim.holds_of_wide 5 Tryz.f5 rfl rfl rfl rfl rfl rfl rfl ⟨rfl, rfl, rfl, rfl, rfl⟩ rfl rfl rfl rfl rfl (by kernel_rfl) Tryz.func5 (by kernel_rfl)
    (of_decide_eq_true (by kernel_rfl)) (by unfold Func.isWrapper; first | (rw [if_pos (by decide +kernel)]; kernel_rfl) | (rw [if_neg (by decide +kernel)]; exact ⟨rfl, rfl⟩))
    (fun os started H enc _ => treeDecodes_lifted os started H enc)
theorem treeDecodes_card : Rows.TreeDecodesCardSaid :=
  Claim7.holds_tied_plain_at .later [] Rows.treeDecodesCard.laidKinds true Rows.treeDecodesCard.stood.harness Rows.treeDecodesCard.stood.looks
    treeDecodes_holds (fun _ h => by cases h) (by kernel_rfl) (fun _ h => by cases h) treeDecodes_row_tie rfl ⟨rfl, rfl⟩ (by kernel_rfl) rfl
    (fun f fn hf hfn => by
      obtain rfl : f = 5 := Option.some.inj ((show Tryz.prog.funcNamed Rows.treeDecodesRow.func = some 5 by kernel_rfl).symm.trans hf) |>.symm
      obtain rfl : fn = Tryz.f5 := (Option.some.inj (Tryz.func5.symm.trans hfn)).symm
      exact ⟨by kernel_rfl, fun j t ht => by
        rw [treeDecodes_params] at ht
        have hm : t ∈ [9] := by simpa using Array.mem_of_getElem? ht
        have hall : ([9].all fun u => !Tryz.prog.wantsStandIn u) = true := by kernel_rfl
        exact (show Tryz.prog.wantsStandIn t = false by simpa using List.all_eq_true.1 hall t hm)⟩)
    (by kernel_rfl)
#print axioms treeDecodes_card
end Go.Proofs.YtabcobadglgfkaaGreatDoor
