/- The law BlakeSizes returns true at every two texts: a digest has 32 bytes, and words tell bytes apart, two letters for each. Conditions: the row's own (the listed variables hold what the program's text lays). -/
import Derived.Test.YtgodccgbhpannaaDoorRefBB
import Derived.Test.YtgodccgbhpannaaDoorLaidB
import Derived.Test.YtgodccgbhpannaaDoorCards
import Derived.Test.YtgodccgbhpannaaDoorTie
namespace Go.Proofs.YtgodccgbhpannaaDoor
open Go.ChangeShapes Go.WideShapes Go.ChangeAt Go.ChangeMaps Go.RowKit

theorem word_inj {a b : UInt8} (h : M.word a = M.word b) : a = b := by
  rw [wordS, wordS] at h
  simp only [List.cons.injEq, and_true] at h
  have h1 := congrArg UInt8.toNat h.1
  have h2 := congrArg UInt8.toNat h.2
  rw [word_hi, word_hi] at h1
  rw [word_lo, word_lo] at h2
  apply UInt8.toNat_inj.1
  omega
theorem words_inj : ∀ {a b : List UInt8}, M.words a = M.words b → a = b
  | [], [], _ => rfl
  | [], y :: b, h => by have := congrArg List.length h; simp [len_words] at this
  | x :: a, [], h => by have := congrArg List.length h; simp [len_words] at this
  | x :: a, y :: b, h => by
      unfold M.words at h
      rw [List.flatMap_cons, List.flatMap_cons] at h
      have e := List.append_inj h rfl
      rw [word_inj e.1, words_inj (a := a) (b := b) e.2]
theorem words_beq (a b : ByteArray) : (a.toList == b.toList) = (M.words a.data.toList == M.words b.data.toList) := by
  rw [Bool.eq_iff_iff, ByteArray.toList_eq, ByteArray.toList_eq]
  simp only [beq_iff_eq]
  exact ⟨fun h => by rw [h], fun h => words_inj h⟩

set_option maxHeartbeats 2000000 in
set_option maxRecDepth 100000 in
theorem blakeSizes_walk (w : World) (a : ByteArray) (_ : a.size ≤ maxLen) (b : ByteArray) (_ : b.size ≤ maxLen) (ht : Tabs w) :
    Calls Tryd.prog 5 #[.string a, .string b] w fun e w' => e = .returned (.bool true) ∧ Old w w' := by
  have HT := Lib.hid ht
  clear ht
  by_cases hbig : 100000 < a.size ∨ 100000 < b.size
  · have GA := Lib.hid (awake_any w HT.out)
    rcases hbig with hbig | hbig
    · go_enter Tryd.func5, Tryd.ntmps5
      go_wp2_with ((with_reducible refine GA.out.mono ?_); rintro e w1 ⟨rfl, o1⟩)
      go_ret
      exact ⟨rfl, o1⟩
    · by_cases hb2 : 100000 < a.size
      · go_enter Tryd.func5, Tryd.ntmps5
        go_wp2_with ((with_reducible refine GA.out.mono ?_); rintro e w1 ⟨rfl, o1⟩)
        go_ret
        exact ⟨rfl, o1⟩
      · go_enter Tryd.func5, Tryd.ntmps5
        go_wp2_with ((with_reducible refine GA.out.mono ?_); rintro e w1 ⟨rfl, o1⟩)
        go_ret
        exact ⟨rfl, o1⟩
  · have ha : ¬ 100000 < a.size := fun h => hbig (Or.inl h)
    have hb : ¬ 100000 < b.size := fun h => hbig (Or.inr h)
    clear hbig
    have G1 := Lib.hid (words_any a (by omega) w)
    have G2 := Lib.hid (fun w1 => words_any b (by omega) w1)
    have G3 := Lib.hid (fun w1 t1 => sum_any a (by omega) w1 t1)
    have GA := Lib.hid (fun w1 t1 => awake_any w1 t1)
    have hl := len_words a.data.toList
    have hla : a.data.toList.length = a.size := by simp
    rw [hla] at hl
    have hd := M.len_sum a.data.toList
    have hbe := words_beq a b
    generalize M.words a.data.toList = x at *
    generalize M.words b.data.toList = y at *
    generalize M.sum a.data.toList = z at *
    have hzx : (⟨⟨x⟩⟩ : ByteArray).size = x.length := rfl
    have hzz : (⟨⟨z⟩⟩ : ByteArray).size = z.length := rfl
    have hw1 : IntKind.i64.wrap (2 * (a.size : Int)) = 2 * (a.size : Int) := IntWalk.i64_in _ (by omega)
    clear hla
    go_enter Tryd.func5, Tryd.ntmps5
    go_wp2_with (first
      | ((with_reducible refine G1.out.mono ?_); rintro e w1 ⟨rfl, o1⟩)
      | ((with_reducible refine (G2.out _).mono ?_); rintro e w2 ⟨rfl, o2⟩)
      | ((with_reducible refine (G3.out _ (HT.out.old (o1.trans o2))).mono ?_); rintro e w3 ⟨rfl, o3⟩)
      | ((with_reducible refine (GA.out _ (HT.out.old ((o1.trans o2).trans o3))).mono ?_); rintro e w4 ⟨rfl, o4⟩))
    go_ret
    exact ⟨rfl, ((o1.trans o2).trans o3).trans o4⟩

theorem blakeSizes_open {H : Type} {enc : TypeId × Value → H} {Q : Ending → World → Prop} (W : World) (base : Nat) (args : Array Value) (ds : List (DataW H)) (p : List MemPlace) (hL : laidMetH Tryd.prog Rows.blakeSizesRow.laid W)
    (hval : ∀ (j : Nat) t v, (#[9, 9] : Array TypeId)[j]? = some t → args[j]? = some v → Value.okWide Tryd.prog W .any base t v)
    (hA : DataW.TrodAll enc Tryd.prog W 0 (fun _ => true) true [9, 9] args.toList ds p) (fin : ds.length = 2 → ∀ (e : Ending) (W' : World), e = .returned (.bool true) ∧ Old W W' → Q e W') :
    Calls Tryd.prog 5 args W Q := by
  rw [MakeChecks.laidMetH_plain _ _ _ (by kernel_rfl)] at hL
  have f_tabs_of := tabs_of hL (by simp [Rows.blakeSizesRow]) (by simp [Rows.blakeSizesRow])
  obtain ⟨v0, v1, d0, d1, p0, p1, rfl, rfl, _, hd0, hd1⟩ := trodAll_two hA
  obtain ⟨s0, rfl, rfl, rfl, hs0⟩ := open_string Tryd.underlying9 (hval 0 9 v0 rfl rfl) hd0
  obtain ⟨s1, rfl, rfl, rfl, hs1⟩ := open_string Tryd.underlying9 (hval 1 9 v1 rfl rfl) hd1
  exact (blakeSizes_walk W s0 hs0 s1 hs1 f_tabs_of).mono (fin rfl)
theorem blakeSizes_params : Tryd.f5.params = #[9, 9] := rfl
theorem blakeSizes_door (os : Os) (args : Array Value) : laidMetH Tryd.prog Rows.blakeSizesRow.laid ((World.doorLaid Tryd.prog 400 os).forCall (fun _ _ => 0) ⟨#[], args, []⟩).memory :=
  laidMetH_of_parts3 (fuel := 8) (laidMet_of_run' 8 (by kernel_rfl) (by kernel_rfl)) (by kernel_rfl) (by kernel_rfl)
theorem blakeSizes_fn {H : Type} (ds : List (DataW H)) (h : ds.length = 2) : Rows.blakeSizesSpec.fn H ds = { results := [.lit (.bool true)], args := ds } := by
  match ds, h with
  | [_, _], _ => rfl
theorem blakeSizes_reads : ∀ t ∈ Tryd.f5.params.toList, Tryd.prog.readableRec t = true ∧ t < Tryd.prog.types.size := by
  rw [blakeSizes_params]; intro t ht; simp at ht; rcases ht with rfl | rfl <;> exact ⟨by kernel_rfl, of_decide_eq_true (by kernel_rfl)⟩
set_option maxRecDepth 100000 in
theorem blakeSizes_lifted (os : Os) (started : os.Started) (H : Type) (enc : TypeId × Value → H) :
    ReturnsInHanded {} Tryd.checked os 5 .any (fun w args => (Rows.blakeSizesSpec.pre enc Tryd.prog Tryd.f5 [] false w args ∧ laidMetH Tryd.prog Rows.blakeSizesRow.laid w) ∧ sizedMet enc Tryd.prog Tryd.f5 (OpenSpec.ofChange Rows.blakeSizesSpec) false w args)
      (Rows.blakeSizesSpec.post enc Tryd.prog Tryd.f5 false true false false) := by
  refine returnsInHanded_of_change_and (C := Tryd.checked) (X := fun w _ => laidMetH Tryd.prog Rows.blakeSizesRow.laid w) (fun _ _ _ hh h => h.of_heap hh) own started (by kernel_rfl) Tryd.func5
    (ChangeSpec.witness_shaped (enc := enc) (C := Tryd.checked) (os := os) (X := fun w _ => laidMetH Tryd.prog Rows.blakeSizesRow.laid w) false (World.doorLaid Tryd.prog 400 os) #[.string ⟨#[]⟩, .string ⟨#[]⟩] 8 rfl (World.shaped_of_RefB (by kernel_rfl) (by kernel_rfl)) (by kernel_rfl) (by kernel_rfl) (by kernel_rfl) (blakeSizes_door os _)) ?_
  intro W base args ds gs before hval0 hW _ hreach hL _
  have hval : ∀ (j : Nat) t v, Tryd.f5.params[j]? = some t → args[j]? = some v → Value.okWide Tryd.prog W .any base t v := hval0
  have hW' := hW
  obtain ⟨p, q, hA0, hV, hbef, hfz, hnd⟩ := hW
  have hA : DataW.TrodAll enc Tryd.prog W 0 (fun _ => true) true Tryd.f5.params.toList args.toList ds p := hA0
  have hgs : gs = [] := by cases gs with | nil => rfl | cons g r => exact absurd hV (by intro h; cases h)
  subst hgs
  have fin : ds.length = 2 → ∀ (e : Ending) (W' : World), e = .returned (.bool true) ∧ Old W W' → ∃ v, e = .returned v ∧ Rows.blakeSizesSpec.post enc Tryd.prog Tryd.f5 false true false false W args v W' := by
    rintro hd e W' ⟨rfl, hb⟩
    exact ⟨_, rfl, law_post hW' rfl blakeSizes_reads rfl (by rw [List.append_nil]; exact blakeSizes_fn ds hd) hb⟩
  rw [blakeSizes_params] at hA hval
  exact blakeSizes_open W base args ds p hL hval hA fin

theorem blakeSizes_holds : Rows.BlakeSizesSaid :=
  OpenClaim.holds_of_wide 5 Tryd.f5 rfl rfl rfl rfl rfl rfl rfl ⟨rfl, rfl, rfl, rfl, rfl⟩ rfl rfl rfl rfl rfl (by kernel_rfl) Tryd.func5 (by kernel_rfl)
    (of_decide_eq_true (by kernel_rfl)) (by unfold Func.isWrapper; first | (rw [if_pos (by decide +kernel)]; kernel_rfl) | (rw [if_neg (by decide +kernel)]; exact ⟨rfl, rfl⟩))
    (fun os started H enc _ => blakeSizes_lifted os started H enc)
theorem blakeSizes_card : Rows.BlakeSizesCardSaid :=
  Claim7.holds_tied_plain_at .later [] Rows.blakeSizesCard.laidKinds true Rows.blakeSizesCard.stood.harness Rows.blakeSizesCard.stood.looks
    blakeSizes_holds (fun _ h => by cases h) (by kernel_rfl) (fun _ h => by cases h) blakeSizes_row_tie rfl ⟨rfl, rfl⟩ (by kernel_rfl) rfl
    (fun f fn hf hfn => by
      obtain rfl : f = 5 := Option.some.inj ((show Tryd.prog.funcNamed Rows.blakeSizesRow.func = some 5 by kernel_rfl).symm.trans hf) |>.symm
      obtain rfl : fn = Tryd.f5 := (Option.some.inj (Tryd.func5.symm.trans hfn)).symm
      exact ⟨by kernel_rfl, fun j t ht => by
        rw [blakeSizes_params] at ht
        have hm : t ∈ [9, 9] := by simpa using Array.mem_of_getElem? ht
        have hall : ([9, 9].all fun u => !Tryd.prog.wantsStandIn u) = true := by kernel_rfl
        exact (show Tryd.prog.wantsStandIn t = false by simpa using List.all_eq_true.1 hall t hm)⟩)
    (by kernel_rfl)
#print axioms blakeSizes_card
end Go.Proofs.YtgodccgbhpannaaDoor
