/- The law TreeEncodes returns true at every list of entries: the bytes of up to forty entries are the document's, and so is the error, and the chapter's examples hold. Conditions: the row's own (the listed variables hold what the program's text lays). -/
import Derived.Test.YtabcobadglgfkaaGreatDoorMT6
import Derived.Test.YtabcobadglgfkaaGreatDoorMT1
import Derived.Test.YtabcobadglgfkaaGreatDoorCards
import Derived.Test.YtabcobadglgfkaaGreatDoorTie
namespace Go.Proofs.YtabcobadglgfkaaGreatDoor
open Go.ChangeShapes Go.WideShapes Go.ChangeAt Go.ChangeMaps Go.RowKit

set_option maxHeartbeats 4000000 in
set_option maxRecDepth 100000 in
theorem treeEncodes_walk (w : World) (v : Value) (l : List M.En) (hv : El w v l) (_ : l.length ≤ maxLen) (hs : ∀ e, e ∈ l → e.1.length ≤ maxLen ∧ e.2.2.length ≤ maxLen) (hm : Mx w) (ht : Tab w) (hb : Tabs w) :
    Calls Tryz.prog 4 #[v] w fun e w' => e = .returned (.bool true) ∧ Old w w' := by
  have hE := env_of hm ht hb
  have GA := Lib.hid (fun w1 (h : Old w w1) => awake_any w1 (hE.old h))
  obtain ⟨p, cap, rfl⟩ := hv.len
  have H := Lib.hid hv
  by_cases hbig : 40 < l.length
  · clear hm ht hb hE hv hs H
    have O0 := Lib.hid (Below.refl w.heap.size w)
    go_enter Tryz.func4, Tryz.ntmps4
    go_wp2_with ((with_reducible refine (GA.out _ O0.out).mono ?_); rintro e wz ⟨rfl, oz⟩)
    go_ret
    exact ⟨rfl, oz⟩
  · have HS := Lib.hid hs
    have G1 := Lib.hid (encode_any _ l w hE.tab hE.mx hv (by omega) hs)
    have G2 := Lib.hid (fun w1 (h : Old w w1) => rencode_any _ l w1 (hv.old h) (by omega) hs)
    have O0 := Lib.hid (Below.refl w.heap.size w)
    clear hm ht hb hE hv hs
    generalize M.encode l = x at *
    obtain ⟨xa, xe⟩ := x
    go_enter Tryz.func4, Tryz.ntmps4
    go_wp2
    go_loopw [3] (fun i wr => ∃ k : Nat, k ≤ l.length ∧ i = .int .i64 k ∧ wr = w) (fun i _ => l.length - (intOf i).toNat)
    case atStart => exact ⟨0, Nat.zero_le _, rfl, rfl⟩
    case round =>
      obtain ⟨k, hk, rfl, rfl⟩ := hrel
      by_cases hlt : k < l.length
      · obtain ⟨b, off, rfl, hb, hc⟩ := H.out.at (by intro h; rw [h] at hlt; exact absurd hlt (Nat.not_lt_zero _))
        obtain ⟨c0, c1, c2⟩ := hc k hlt
        clear hc hb
        generalize l[k].1 = n at *
        generalize l[k].2.2 = g at *
        have hn := size_mk n
        have hg := size_mk g
        by_cases h1 : 500 < n.length
        · go_wp2_with ((with_reducible refine (GA.out _ O0.out).mono ?_); rintro e wz ⟨rfl, oz⟩)
          go_ret
          exact ⟨rfl, oz⟩
        · by_cases h2 : 500 < g.length
          · go_wp2_with ((with_reducible refine (GA.out _ O0.out).mono ?_); rintro e wz ⟨rfl, oz⟩)
            go_ret
            exact ⟨rfl, oz⟩
          · go_wp2
            go_roundw
            case rel => exact ⟨k + 1, by omega, by go_num, trivial⟩
            case measure => simp [intOf]; omega
      · obtain rfl : k = l.length := by omega
        go_wp2_with (first
          | ((with_reducible refine G1.out.mono ?_); rintro e w1 ⟨rfl, o1⟩)
          | ((with_reducible refine (G2.out _ o1).mono ?_); rintro e w2 ⟨rfl, o2⟩; have o12 := o1.trans o2)
          | ((with_reducible refine (GA.out _ o12).mono ?_); rintro e wz ⟨rfl, oz⟩))
        go_ret
        exact ⟨rfl, o12.trans oz⟩

set_option maxRecDepth 100000 in
theorem treeEncodes_open {H : Type} {enc : TypeId × Value → H} {Q : Ending → World → Prop} (W : World) (base : Nat) (args : Array Value) (ds : List (DataW H)) (p : List MemPlace) (hsh : W.ShapedOpen Tryz.prog) (hL : laidMetH Tryz.prog Rows.treeEncodesRow.laid W)
    (hval : ∀ (j : Nat) t v, (#[26] : Array TypeId)[j]? = some t → args[j]? = some v → Value.okWide Tryz.prog W .any base t v)
    (hA : DataW.TrodAll enc Tryz.prog W 0 (fun _ => true) true [26] args.toList ds p) (fin : ds.length = 1 → ∀ (e : Ending) (W' : World), e = .returned (.bool true) ∧ Old W W' → Q e W') :
    Calls Tryz.prog 4 args W Q := by
  have f_sh := mx_of hsh
  rw [MakeChecks.laidMetH_plain _ _ _ (by kernel_rfl)] at hL
  have ft := tab_of hL (by simp [Rows.treeEncodesRow])
  have f_tabs_of := tabs_of hL (by simp [Rows.treeEncodesRow]) (by simp [Rows.treeEncodesRow])
  obtain ⟨v0, d0, rfl, rfl, hd0⟩ := trodAll_one hA
  obtain ⟨l0, hv0, hl0, hs0⟩ := open_entries Tryz.underlying26 (hval 0 26 v0 rfl rfl) hd0
  exact (treeEncodes_walk W v0 l0 hv0 hl0 hs0 f_sh ft f_tabs_of).mono (fin rfl)
theorem treeEncodes_params : Tryz.f4.params = #[26] := rfl
theorem treeEncodes_door (os : Os) (args : Array Value) : laidMetH Tryz.prog Rows.treeEncodesRow.laid ((World.laidAll Tryz.prog os Rows.treeEncodesRow.laid).forCall (fun _ _ => 0) ⟨#[], args, []⟩).memory := by
  rw [MakeChecks.laidMetH_plain _ _ _ (by kernel_rfl)]
  exact laidMet_laidAll _ (by kernel_rfl) (by kernel_rfl)
theorem treeEncodes_fn {H : Type} (ds : List (DataW H)) (h : ds.length = 1) : Rows.treeEncodesSpec.fn H ds = { results := [.lit (.bool true)], args := ds } := by
  match ds, h with
  | [_], _ => rfl
theorem treeEncodes_reads : ∀ t ∈ Tryz.f4.params.toList, Tryz.prog.readableRec t = true ∧ t < Tryz.prog.types.size := by
  rw [treeEncodes_params]; intro t ht; simp at ht; subst ht; exact ⟨by kernel_rfl, of_decide_eq_true (by kernel_rfl)⟩
set_option maxRecDepth 100000 in
theorem treeEncodes_lifted (os : Os) (started : os.Started) (H : Type) (enc : TypeId × Value → H) :
    ReturnsInHanded {} Tryz.checked os 4 .any (fun w args => (Rows.treeEncodesSpec.pre enc Tryz.prog Tryz.f4 [] false w args ∧ laidMetH Tryz.prog Rows.treeEncodesRow.laid w) ∧ sizedMet enc Tryz.prog Tryz.f4 (OpenSpec.ofChange Rows.treeEncodesSpec) false w args)
      (Rows.treeEncodesSpec.post enc Tryz.prog Tryz.f4 false true false false) := by
  refine handed_shaped (X := fun w => laidMetH Tryz.prog Rows.treeEncodesRow.laid w) (fun _ _ hh h => h.of_heap hh) started (by kernel_rfl) Tryz.func4
    (ChangeSpec.witness_shaped (enc := enc) (C := Tryz.checked) (os := os) (X := fun w _ => laidMetH Tryz.prog Rows.treeEncodesRow.laid w) false (World.laidAll Tryz.prog os Rows.treeEncodesRow.laid) #[.slice none 0 0] 8 (World.laidAll_os _ _ _) (World.shaped_of_ZipB (by kernel_rfl) (by kernel_rfl)) (by kernel_rfl) (by kernel_rfl) (by kernel_rfl) (treeEncodes_door os _)) ?_
  intro W base args ds gs before hval0 hW hL hX
  have hval : ∀ (j : Nat) t v, Tryz.f4.params[j]? = some t → args[j]? = some v → Value.okWide Tryz.prog W .any base t v := hval0
  have hW' := hW
  obtain ⟨p, q, hA0, hV, hbef, hfz, hnd⟩ := hW
  have hA : DataW.TrodAll enc Tryz.prog W 0 (fun _ => true) true Tryz.f4.params.toList args.toList ds p := hA0
  have hgs : gs = [] := by cases gs with | nil => rfl | cons g r => exact absurd hV (by intro h; cases h)
  subst hgs
  have fin : ds.length = 1 → ∀ (e : Ending) (W' : World), e = .returned (.bool true) ∧ Old W W' → ∃ v, e = .returned v ∧ Rows.treeEncodesSpec.post enc Tryz.prog Tryz.f4 false true false false W args v W' := by
    rintro hd e W' ⟨rfl, hb⟩
    exact ⟨_, rfl, law_post hW' rfl treeEncodes_reads rfl (by rw [List.append_nil]; exact treeEncodes_fn ds hd) hb⟩
  rw [treeEncodes_params] at hA hval
  exact treeEncodes_open W base args ds p hL hX hval hA fin

theorem treeEncodes_holds : Rows.TreeEncodesSaid :=
  OpenClaim.holds_of_wide 4 Tryz.f4 rfl rfl rfl rfl rfl rfl rfl ⟨rfl, rfl, rfl, rfl, rfl⟩ rfl rfl rfl rfl rfl (by kernel_rfl) Tryz.func4 (by kernel_rfl)
    (of_decide_eq_true (by kernel_rfl)) (by unfold Func.isWrapper; first | (rw [if_pos (by decide +kernel)]; kernel_rfl) | (rw [if_neg (by decide +kernel)]; exact ⟨rfl, rfl⟩))
    (fun os started H enc _ => treeEncodes_lifted os started H enc)
theorem treeEncodes_card : Rows.TreeEncodesCardSaid :=
  Claim7.holds_tied_plain_at .later [] Rows.treeEncodesCard.laidKinds true Rows.treeEncodesCard.stood.harness Rows.treeEncodesCard.stood.looks
    treeEncodes_holds (fun _ h => by cases h) (by kernel_rfl) (fun _ h => by cases h) treeEncodes_row_tie rfl ⟨rfl, rfl⟩ (by kernel_rfl) rfl
    (fun f fn hf hfn => by
      obtain rfl : f = 4 := Option.some.inj ((show Tryz.prog.funcNamed Rows.treeEncodesRow.func = some 4 by kernel_rfl).symm.trans hf) |>.symm
      obtain rfl : fn = Tryz.f4 := (Option.some.inj (Tryz.func4.symm.trans hfn)).symm
      exact ⟨by kernel_rfl, fun j t ht => by
        rw [treeEncodes_params] at ht
        have hm : t ∈ [26] := by simpa using Array.mem_of_getElem? ht
        have hall : ([26].all fun u => !Tryz.prog.wantsStandIn u) = true := by kernel_rfl
        exact (show Tryz.prog.wantsStandIn t = false by simpa using List.all_eq_true.1 hall t hm)⟩)
    (by kernel_rfl)
#print axioms treeEncodes_card
end Go.Proofs.YtabcobadglgfkaaGreatDoor
