/- The law PackDigits returns true at every number: a packed number is the text of its digits, and tells its sign. Conditions: the row's own (the listed variables hold what the program's text lays). -/
import Derived.Test.YtflkinglgnkchaaDoorPackH
import Derived.Test.YtflkinglgnkchaaDoorLaid
import Derived.Test.YtflkinglgnkchaaDoorCards
import Derived.Test.YtflkinglgnkchaaDoorTie
namespace Go.Proofs.YtflkinglgnkchaaDoor
open Go.ChangeShapes Go.WideShapes Go.ChangeAt Go.ChangeMaps Go.RowKit

theorem next_pack (l : List UInt8) (h : l.length < 10000000) : nextS (M.pack l, 0) = (l, true, ([], 0)) := by
  have hc := M.cut_pack l [] h
  rw [List.append_nil] at hc
  simp [nextS, hc]

set_option maxHeartbeats 2000000 in
set_option maxRecDepth 100000 in
theorem packDigits_walk (w : World) (n : Int) (h0 : -9223372036854775808 ≤ n) (h1 : n ≤ 9223372036854775807) (ht : Tab w) :
    Calls Tryd.prog 10 #[.int .i64 n] w fun e w' => e = .returned (.bool true) ∧ Old w w' := by
  have hlen := M.itoa_len20 n h0 h1
  have hne := M.itoa_ne n
  have hsign := M.itoa_sign n
  have hnext := next_pack (Lib.itoa n) (by omega)
  have hpl := M.pack_len (Lib.itoa n) (by omega)
  have g1 := Lib.hid (fun w1 (t1 : Tab w1) => pnum_any n h0 h1 w1 t1)
  have g2 := Lib.hid (fun w1 (t1 : Tab w1) => ptext_any ⟨⟨Lib.itoa n⟩⟩ w1 t1 (Nat.le_trans (show (Lib.itoa n).length ≤ 20 from hlen) (by decide)))
  have g3 := Lib.hid (fun w1 b (r1 : Rd w1 b (M.pack (Lib.itoa n), 0)) => text_any b (M.pack (Lib.itoa n), 0) w1 r1 (by simp only [maxLen]; omega))
  rw [hnext] at g3
  have g4 := Lib.hid (fun w1 => read_any ⟨⟨M.pack (Lib.itoa n)⟩⟩ w1)
  clear hnext hpl
  generalize hp : M.pack (Lib.itoa n) = P at *
  clear hp
  cases hi : Lib.itoa n with
  | nil => exact absurd hi hne
  | cons c r =>
    rw [hi] at hlen hsign g2 g3
    simp only [List.length_cons] at hlen
    simp only [List.head?_cons, Option.some.injEq] at hsign
    clear hi hne
    have hs2 : ((c.toNat : Int) == 45) = decide (n < 0) := by
      rw [Bool.eq_iff_iff]
      simp only [beq_iff_eq, decide_eq_true_eq]
      rw [← hsign]
      constructor
      · intro h; exact UInt8.toNat_inj.1 (by show c.toNat = 45; omega)
      · rintro rfl; rfl
    have HS := Lib.hid hs2
    clear hsign hs2
    go_enter Tryd.func10, Tryd.ntmps10
    go_wp2_with (first
      | ((with_reducible refine (g1.out _ ht).mono ?_); rintro e w1 ⟨rfl, o1⟩)
      | ((with_reducible refine (g4.out _).mono ?_); rintro e w2 ⟨rfl, rfl⟩))
    have r1 : Rd (w1.alloc (.cells #[.string ⟨⟨P⟩⟩, .int .i64 0] 55)) w1.heap.size (P, 0) := Blk.new w1 _ _
    have o2 := o1.trans (Old.alloc w1 (.cells #[.string ⟨⟨P⟩⟩, .int .i64 0] 55))
    have hsz := o1.size
    have h3 := g3.out _ _ r1
    generalize w1.alloc (.cells #[.string ⟨⟨P⟩⟩, .int .i64 0] 55) = w2 at *
    refine h3.mono ?_
    rintro e w3 ⟨rfl, r3, k3⟩
    have o3 : Old w w3 := Below.trans o2 (k3.below o2.size (fun k hk => by omega))
    clear r1 h3
    go_wp2_with fail
    refine (end_any _ _ _ r3).mono ?_; rintro e w4 ⟨rfl, rfl⟩
    simp only [endOf]
    have hn := HS.out
    by_cases hneg : n < 0
    · rw [decide_eq_true hneg] at hn
      have hn' : ((((⟨⟨c :: r⟩⟩ : ByteArray)[0]'(Nat.succ_pos r.length)).toNat : Int) == 45) = true := hn
      clear hn
      go_wp2_with (first
        | ((with_reducible refine (g2.out _ (ht.old o3)).mono ?_); rintro e w5 ⟨rfl, o5⟩)
        | ((with_reducible refine (g1.out _ (ht.old (o3.trans o5))).mono ?_); rintro e w6 ⟨rfl, o6⟩)
        | ((with_reducible refine (awake_any _ (ht.old ((o3.trans o5).trans o6))).mono ?_); rintro e w7 ⟨rfl, o7⟩))
      go_ret
      exact ⟨rfl, ((o3.trans o5).trans o6).trans o7⟩
    · rw [decide_eq_false hneg] at hn
      have hn' : ((((⟨⟨c :: r⟩⟩ : ByteArray)[0]'(Nat.succ_pos r.length)).toNat : Int) == 45) = false := hn
      clear hn
      go_wp2_with (first
        | ((with_reducible refine (g2.out _ (ht.old o3)).mono ?_); rintro e w5 ⟨rfl, o5⟩)
        | ((with_reducible refine (g1.out _ (ht.old (o3.trans o5))).mono ?_); rintro e w6 ⟨rfl, o6⟩)
        | ((with_reducible refine (awake_any _ (ht.old ((o3.trans o5).trans o6))).mono ?_); rintro e w7 ⟨rfl, o7⟩))
      go_ret
      exact ⟨rfl, ((o3.trans o5).trans o6).trans o7⟩

theorem packDigits_open {H : Type} {enc : TypeId × Value → H} {Q : Ending → World → Prop} (W : World) (base : Nat) (args : Array Value) (ds : List (DataW H)) (p : List MemPlace) (hL : laidMetH Tryd.prog Rows.packDigitsRow.laid W)
    (hval : ∀ (j : Nat) t v, (#[3] : Array TypeId)[j]? = some t → args[j]? = some v → Value.okWide Tryd.prog W .any base t v)
    (hA : DataW.TrodAll enc Tryd.prog W 0 (fun _ => true) true [3] args.toList ds p) (fin : ds.length = 1 → ∀ (e : Ending) (W' : World), e = .returned (.bool true) ∧ Old W W' → Q e W') :
    Calls Tryd.prog 10 args W Q := by
  rw [MakeChecks.laidMetH_plain _ _ _ (by kernel_rfl)] at hL
  have ft := tab_of hL (by simp [Rows.packDigitsRow])
  obtain ⟨v0, d0, rfl, rfl, hd0⟩ := trodAll_one hA
  obtain ⟨n0, rfl, rfl, rfl, hw0⟩ := open_int Tryd.underlying3 (hval 0 3 v0 rfl rfl) hd0
  have hb0 := bound_int hw0
  exact (packDigits_walk W n0 hb0.1 hb0.2 ft).mono (fin rfl)
theorem packDigits_params : Tryd.f10.params = #[3] := rfl
theorem packDigits_door (os : Os) (args : Array Value) : laidMetH Tryd.prog Rows.packDigitsRow.laid ((World.doorLaid Tryd.prog 400 os).forCall (fun _ _ => 0) ⟨#[], args, []⟩).memory :=
  laidMetH_of_parts3 (fuel := 8) (laidMet_of_run' 8 (by kernel_rfl) (by kernel_rfl)) (by kernel_rfl) (by kernel_rfl)
theorem packDigits_fn {H : Type} (ds : List (DataW H)) (h : ds.length = 1) : Rows.packDigitsSpec.fn H ds = { results := [.lit (.bool true)], args := ds } := by
  match ds, h with
  | [_], _ => rfl
theorem packDigits_reads : ∀ t ∈ Tryd.f10.params.toList, Tryd.prog.readableRec t = true ∧ t < Tryd.prog.types.size := by
  rw [packDigits_params]; intro t ht; simp at ht; subst ht; exact ⟨by kernel_rfl, of_decide_eq_true (by kernel_rfl)⟩
set_option maxRecDepth 100000 in
theorem packDigits_lifted (os : Os) (started : os.Started) (H : Type) (enc : TypeId × Value → H) :
    ReturnsInHanded {} Tryd.checked os 10 .any (fun w args => (Rows.packDigitsSpec.pre enc Tryd.prog Tryd.f10 [] false w args ∧ laidMetH Tryd.prog Rows.packDigitsRow.laid w) ∧ sizedMet enc Tryd.prog Tryd.f10 (OpenSpec.ofChange Rows.packDigitsSpec) false w args)
      (Rows.packDigitsSpec.post enc Tryd.prog Tryd.f10 false true false false) := by
  refine returnsInHanded_of_change_and (C := Tryd.checked) (X := fun w _ => laidMetH Tryd.prog Rows.packDigitsRow.laid w) (fun _ _ _ hh h => h.of_heap hh) own started (by kernel_rfl) Tryd.func10
    (ChangeSpec.witness_shaped (enc := enc) (C := Tryd.checked) (os := os) (X := fun w _ => laidMetH Tryd.prog Rows.packDigitsRow.laid w) false (World.doorLaid Tryd.prog 400 os) #[.int .i64 0] 8 rfl (World.shaped_of_RefB (by kernel_rfl) (by kernel_rfl)) (by kernel_rfl) (by kernel_rfl) (by kernel_rfl) (packDigits_door os _)) ?_
  intro W base args ds gs before hval0 hW _ hreach hL _
  have hval : ∀ (j : Nat) t v, Tryd.f10.params[j]? = some t → args[j]? = some v → Value.okWide Tryd.prog W .any base t v := hval0
  have hW' := hW
  obtain ⟨p, q, hA0, hV, hbef, hfz, hnd⟩ := hW
  have hA : DataW.TrodAll enc Tryd.prog W 0 (fun _ => true) true Tryd.f10.params.toList args.toList ds p := hA0
  have hgs : gs = [] := by cases gs with | nil => rfl | cons g r => exact absurd hV (by intro h; cases h)
  subst hgs
  have fin : ds.length = 1 → ∀ (e : Ending) (W' : World), e = .returned (.bool true) ∧ Old W W' → ∃ v, e = .returned v ∧ Rows.packDigitsSpec.post enc Tryd.prog Tryd.f10 false true false false W args v W' := by
    rintro hd e W' ⟨rfl, hb⟩
    exact ⟨_, rfl, law_post hW' rfl packDigits_reads rfl (by rw [List.append_nil]; exact packDigits_fn ds hd) hb⟩
  rw [packDigits_params] at hA hval
  exact packDigits_open W base args ds p hL hval hA fin

theorem packDigits_holds : Rows.PackDigitsSaid :=
  OpenClaim.holds_of_wide 10 Tryd.f10 rfl rfl rfl rfl rfl rfl rfl ⟨rfl, rfl, rfl, rfl, rfl⟩ rfl rfl rfl rfl rfl (by kernel_rfl) Tryd.func10 (by kernel_rfl)
    (of_decide_eq_true (by kernel_rfl)) (by unfold Func.isWrapper; first | (rw [if_pos (by decide +kernel)]; kernel_rfl) | (rw [if_neg (by decide +kernel)]; exact ⟨rfl, rfl⟩))
    (fun os started H enc _ => packDigits_lifted os started H enc)
theorem packDigits_card : Rows.PackDigitsCardSaid :=
  Claim7.holds_tied_plain_at .later [] Rows.packDigitsCard.laidKinds true Rows.packDigitsCard.stood.harness true
    packDigits_holds (fun _ h => by cases h) (by kernel_rfl) (fun _ h => by cases h) packDigits_row_tie rfl ⟨rfl, rfl⟩ (by kernel_rfl) rfl
    (fun f fn hf hfn => by
      obtain rfl : f = 10 := Option.some.inj ((show Tryd.prog.funcNamed Rows.packDigitsRow.func = some 10 by kernel_rfl).symm.trans hf) |>.symm
      obtain rfl : fn = Tryd.f10 := (Option.some.inj (Tryd.func10.symm.trans hfn)).symm
      exact ⟨by kernel_rfl, fun j t ht => by
        rw [packDigits_params] at ht
        have hm : t ∈ [3] := by simpa using Array.mem_of_getElem? ht
        have hall : ([3].all fun u => !Tryd.prog.wantsStandIn u) = true := by kernel_rfl
        exact (show Tryd.prog.wantsStandIn t = false by simpa using List.all_eq_true.1 hall t hm)⟩)
    (by kernel_rfl)
#print axioms packDigits_card
end Go.Proofs.YtflkinglgnkchaaDoor
