/- The law BlakeWords returns true at every text: the program's words of bytes are the document's, and the chapter's examples hold. Conditions: the row's own (the listed variables hold what the program's text lays). -/
import Derived.Test.YtgodccgbhpannaaDoorRefBB
import Derived.Test.YtgodccgbhpannaaDoorLaidB
import Derived.Test.YtgodccgbhpannaaDoorCards
import Derived.Test.YtgodccgbhpannaaDoorTie
namespace Go.Proofs.YtgodccgbhpannaaDoor
open Go.ChangeShapes Go.WideShapes Go.ChangeAt Go.ChangeMaps Go.RowKit

set_option maxHeartbeats 2000000 in
set_option maxRecDepth 100000 in
theorem blakeWords_walk (w : World) (s : ByteArray) (_ : s.size ≤ maxLen) (ht : Tabs w) :
    Calls Tryd.prog 4 #[.string s] w fun e w' => e = .returned (.bool true) ∧ Old w w' := by
  have HT := Lib.hid ht
  clear ht
  by_cases hbig : 100000 < s.size
  · have GA := Lib.hid (awake_any w HT.out)
    go_enter Tryd.func4, Tryd.ntmps4
    go_wp2_with ((with_reducible refine GA.out.mono ?_); rintro e w1 ⟨rfl, o1⟩)
    go_ret
    exact ⟨rfl, o1⟩
  · have G1 := Lib.hid (words_any s (by omega) w)
    have G2 := Lib.hid (fun w1 => rwords_any s (by omega) w1)
    have GA := Lib.hid (fun w1 t1 => awake_any w1 t1)
    generalize M.words s.data.toList = x at *
    go_enter Tryd.func4, Tryd.ntmps4
    go_wp2_with (first
      | ((with_reducible refine G1.out.mono ?_); rintro e w1 ⟨rfl, o1⟩)
      | ((with_reducible refine (G2.out _).mono ?_); rintro e w2 ⟨rfl, o2⟩)
      | ((with_reducible refine (GA.out _ (HT.out.old (o1.trans o2))).mono ?_); rintro e w3 ⟨rfl, o3⟩))
    go_ret
    exact ⟨rfl, (o1.trans o2).trans o3⟩

theorem blakeWords_open {H : Type} {enc : TypeId × Value → H} {Q : Ending → World → Prop} (W : World) (base : Nat) (args : Array Value) (ds : List (DataW H)) (p : List MemPlace) (hL : laidMetH Tryd.prog Rows.blakeWordsRow.laid W)
    (hval : ∀ (j : Nat) t v, (#[9] : Array TypeId)[j]? = some t → args[j]? = some v → Value.okWide Tryd.prog W .any base t v)
    (hA : DataW.TrodAll enc Tryd.prog W 0 (fun _ => true) true [9] args.toList ds p) (fin : ds.length = 1 → ∀ (e : Ending) (W' : World), e = .returned (.bool true) ∧ Old W W' → Q e W') :
    Calls Tryd.prog 4 args W Q := by
  rw [MakeChecks.laidMetH_plain _ _ _ (by kernel_rfl)] at hL
  have f_tabs_of := tabs_of hL (by simp [Rows.blakeWordsRow]) (by simp [Rows.blakeWordsRow])
  obtain ⟨v0, d0, rfl, rfl, hd0⟩ := trodAll_one hA
  obtain ⟨s0, rfl, rfl, rfl, hs0⟩ := open_string Tryd.underlying9 (hval 0 9 v0 rfl rfl) hd0
  exact (blakeWords_walk W s0 hs0 f_tabs_of).mono (fin rfl)
theorem blakeWords_params : Tryd.f4.params = #[9] := rfl
theorem blakeWords_door (os : Os) (args : Array Value) : laidMetH Tryd.prog Rows.blakeWordsRow.laid ((World.doorLaid Tryd.prog 400 os).forCall (fun _ _ => 0) ⟨#[], args, []⟩).memory :=
  laidMetH_of_parts3 (fuel := 8) (laidMet_of_run' 8 (by kernel_rfl) (by kernel_rfl)) (by kernel_rfl) (by kernel_rfl)
theorem blakeWords_fn {H : Type} (ds : List (DataW H)) (h : ds.length = 1) : Rows.blakeWordsSpec.fn H ds = { results := [.lit (.bool true)], args := ds } := by
  match ds, h with
  | [_], _ => rfl
theorem blakeWords_reads : ∀ t ∈ Tryd.f4.params.toList, Tryd.prog.readableRec t = true ∧ t < Tryd.prog.types.size := by
  rw [blakeWords_params]; intro t ht; simp at ht; subst ht; exact ⟨by kernel_rfl, of_decide_eq_true (by kernel_rfl)⟩
set_option maxRecDepth 100000 in
theorem blakeWords_lifted (os : Os) (started : os.Started) (H : Type) (enc : TypeId × Value → H) :
    ReturnsInHanded {} Tryd.checked os 4 .any (fun w args => (Rows.blakeWordsSpec.pre enc Tryd.prog Tryd.f4 [] false w args ∧ laidMetH Tryd.prog Rows.blakeWordsRow.laid w) ∧ sizedMet enc Tryd.prog Tryd.f4 (OpenSpec.ofChange Rows.blakeWordsSpec) false w args)
      (Rows.blakeWordsSpec.post enc Tryd.prog Tryd.f4 false true false false) := by
  refine returnsInHanded_of_change_and (C := Tryd.checked) (X := fun w _ => laidMetH Tryd.prog Rows.blakeWordsRow.laid w) (fun _ _ _ hh h => h.of_heap hh) own started (by kernel_rfl) Tryd.func4
    (ChangeSpec.witness_shaped (enc := enc) (C := Tryd.checked) (os := os) (X := fun w _ => laidMetH Tryd.prog Rows.blakeWordsRow.laid w) false (World.doorLaid Tryd.prog 400 os) #[.string ⟨#[]⟩] 8 rfl (World.shaped_of_RefB (by kernel_rfl) (by kernel_rfl)) (by kernel_rfl) (by kernel_rfl) (by kernel_rfl) (blakeWords_door os _)) ?_
  intro W base args ds gs before hval0 hW _ hreach hL _
  have hval : ∀ (j : Nat) t v, Tryd.f4.params[j]? = some t → args[j]? = some v → Value.okWide Tryd.prog W .any base t v := hval0
  have hW' := hW
  obtain ⟨p, q, hA0, hV, hbef, hfz, hnd⟩ := hW
  have hA : DataW.TrodAll enc Tryd.prog W 0 (fun _ => true) true Tryd.f4.params.toList args.toList ds p := hA0
  have hgs : gs = [] := by cases gs with | nil => rfl | cons g r => exact absurd hV (by intro h; cases h)
  subst hgs
  have fin : ds.length = 1 → ∀ (e : Ending) (W' : World), e = .returned (.bool true) ∧ Old W W' → ∃ v, e = .returned v ∧ Rows.blakeWordsSpec.post enc Tryd.prog Tryd.f4 false true false false W args v W' := by
    rintro hd e W' ⟨rfl, hb⟩
    exact ⟨_, rfl, law_post hW' rfl blakeWords_reads rfl (by rw [List.append_nil]; exact blakeWords_fn ds hd) hb⟩
  rw [blakeWords_params] at hA hval
  exact blakeWords_open W base args ds p hL hval hA fin

theorem blakeWords_holds : Rows.BlakeWordsSaid :=
  OpenClaim.holds_of_wide 4 Tryd.f4 rfl rfl rfl rfl rfl rfl rfl ⟨rfl, rfl, rfl, rfl, rfl⟩ rfl rfl rfl rfl rfl (by kernel_rfl) Tryd.func4 (by kernel_rfl)
    (of_decide_eq_true (by kernel_rfl)) (by unfold Func.isWrapper; first | (rw [if_pos (by decide +kernel)]; kernel_rfl) | (rw [if_neg (by decide +kernel)]; exact ⟨rfl, rfl⟩))
    (fun os started H enc _ => blakeWords_lifted os started H enc)
theorem blakeWords_card : Rows.BlakeWordsCardSaid :=
  Claim7.holds_tied_plain_at .later [] Rows.blakeWordsCard.laidKinds true Rows.blakeWordsCard.stood.harness Rows.blakeWordsCard.stood.looks
    blakeWords_holds (fun _ h => by cases h) (by kernel_rfl) (fun _ h => by cases h) blakeWords_row_tie rfl ⟨rfl, rfl⟩ (by kernel_rfl) rfl
    (fun f fn hf hfn => by
      obtain rfl : f = 4 := Option.some.inj ((show Tryd.prog.funcNamed Rows.blakeWordsRow.func = some 4 by kernel_rfl).symm.trans hf) |>.symm
      obtain rfl : fn = Tryd.f4 := (Option.some.inj (Tryd.func4.symm.trans hfn)).symm
      exact ⟨by kernel_rfl, fun j t ht => by
        rw [blakeWords_params] at ht
        have hm : t ∈ [9] := by simpa using Array.mem_of_getElem? ht
        have hall : ([9].all fun u => !Tryd.prog.wantsStandIn u) = true := by kernel_rfl
        exact (show Tryd.prog.wantsStandIn t = false by simpa using List.all_eq_true.1 hall t hm)⟩)
    (by kernel_rfl)
#print axioms blakeWords_card
end Go.Proofs.YtgodccgbhpannaaDoor
