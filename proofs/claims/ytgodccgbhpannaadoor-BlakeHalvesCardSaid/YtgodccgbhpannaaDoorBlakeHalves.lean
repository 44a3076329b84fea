/- The law BlakeHalves returns true at every byte: its two letters are its halves, the higher one first. Conditions: the row's own (the listed variables hold what the program's text lays). -/
import Derived.Test.YtgodccgbhpannaaDoorRefBB
import Derived.Test.YtgodccgbhpannaaDoorRefBA
import Derived.Test.YtgodccgbhpannaaDoorLaidB
import Derived.Test.YtgodccgbhpannaaDoorCards
import Derived.Test.YtgodccgbhpannaaDoorTie
namespace Go.Proofs.YtgodccgbhpannaaDoor
open Go.ChangeShapes Go.WideShapes Go.ChangeAt Go.ChangeMaps Go.RowKit

set_option maxHeartbeats 2000000 in
set_option maxRecDepth 100000 in
theorem blakeHalves_walk (w : World) (n : Int) (h0 : 0 ≤ n) (h1 : n ≤ 255) (ht : Tabs w) :
    Calls Tryd.prog 6 #[.int .u8 n] w fun e w' => e = .returned (.bool true) ∧ Old w w' := by
  have HT := Lib.hid ht
  clear ht
  obtain ⟨c, hc⟩ : ∃ c : UInt8, (c.toNat : Int) = n := ⟨UInt8.ofNat n.toNat, by rw [UInt8.toNat_ofNat']; omega⟩
  have g1 := fun w1 => words_any ⟨⟨[c]⟩⟩ (by show 1 ≤ _; decide) w1
  have hwd : M.words (ByteArray.mk ⟨[c]⟩).data.toList = [97 + c / 16, 97 + c % 16] := rfl
  rw [hwd] at g1
  have hp := word_hi c
  have hq := word_lo c
  generalize (97 + c / 16 : UInt8) = p at *
  generalize (97 + c % 16 : UInt8) = q at *
  have hcl := c.toNat_lt
  have p1 : (97 : Int) ≤ (p.toNat : Int) := by omega
  have p2 : (p.toNat : Int) ≤ 112 := by omega
  have q1 : (97 : Int) ≤ (q.toNat : Int) := by omega
  have q2 : (q.toNat : Int) ≤ 112 := by omega
  have e5 : 16 * ((p.toNat : Int) - 97) + ((q.toNat : Int) - 97) = n := by omega
  have b0 : ∀ h, (⟨⟨[p, q]⟩⟩ : ByteArray)[0]'h = p := fun _ => rfl
  have b1 : ∀ h, (⟨⟨[p, q]⟩⟩ : ByteArray)[1]'h = q := fun _ => rfl
  have G1 := Lib.hid g1
  clear g1 hwd hp hq hcl
  have GA := Lib.hid (fun w1 t1 => awake_any w1 t1)
  have hconv := conv_one c n hc
  go_enter Tryd.func6, Tryd.ntmps6
  go_wp2_with (first
    | ((with_reducible refine (G1.out _).mono ?_); rintro e w1 ⟨rfl, o1⟩)
    | ((with_reducible refine (GA.out _ (HT.out.old o1)).mono ?_); rintro e w2 ⟨rfl, o2⟩))
  have o1' : Old w w1 := Old.trans (Old.alloc w _) o1
  have t0 : Tabs w1 := HT.out.old o1'
  have t1 : Tabs w1.drew := t0
  go_still_tail 14, (by kernel_rfl)
  change wpList _ _ _ _ _ w1.drew
  go_wp2_with ((with_reducible refine (GA.out _ t1).mono ?_); rintro e w2 ⟨rfl, o2⟩)
  go_ret
  exact ⟨rfl, Below.trans o1' (Below.mono (Below.trans ((Below.refl _ w1).drew) o2) o1'.size)⟩

theorem blakeHalves_open {H : Type} {enc : TypeId × Value → H} {Q : Ending → World → Prop} (W : World) (base : Nat) (args : Array Value) (ds : List (DataW H)) (p : List MemPlace) (hL : laidMetH Tryd.prog Rows.blakeHalvesRow.laid W)
    (hval : ∀ (j : Nat) t v, (#[5] : Array TypeId)[j]? = some t → args[j]? = some v → Value.okWide Tryd.prog W .any base t v)
    (hA : DataW.TrodAll enc Tryd.prog W 0 (fun _ => true) true [5] args.toList ds p) (fin : ds.length = 1 → ∀ (e : Ending) (W' : World), e = .returned (.bool true) ∧ Old W W' → Q e W') :
    Calls Tryd.prog 6 args W Q := by
  rw [MakeChecks.laidMetH_plain _ _ _ (by kernel_rfl)] at hL
  have f_tabs_of := tabs_of hL (by simp [Rows.blakeHalvesRow]) (by simp [Rows.blakeHalvesRow])
  obtain ⟨v0, d0, rfl, rfl, hd0⟩ := trodAll_one hA
  obtain ⟨n0, rfl, rfl, rfl, hw0⟩ := open_int Tryd.underlying5 (hval 0 5 v0 rfl rfl) hd0
  have hb0 := bound_u8 hw0
  exact (blakeHalves_walk W n0 hb0.1 hb0.2 f_tabs_of).mono (fin rfl)
theorem blakeHalves_params : Tryd.f6.params = #[5] := rfl
theorem blakeHalves_door (os : Os) (args : Array Value) : laidMetH Tryd.prog Rows.blakeHalvesRow.laid ((World.doorLaid Tryd.prog 400 os).forCall (fun _ _ => 0) ⟨#[], args, []⟩).memory :=
  laidMetH_of_parts3 (fuel := 8) (laidMet_of_run' 8 (by kernel_rfl) (by kernel_rfl)) (by kernel_rfl) (by kernel_rfl)
theorem blakeHalves_fn {H : Type} (ds : List (DataW H)) (h : ds.length = 1) : Rows.blakeHalvesSpec.fn H ds = { results := [.lit (.bool true)], args := ds } := by
  match ds, h with
  | [_], _ => rfl
theorem blakeHalves_reads : ∀ t ∈ Tryd.f6.params.toList, Tryd.prog.readableRec t = true ∧ t < Tryd.prog.types.size := by
  rw [blakeHalves_params]; intro t ht; simp at ht; subst ht; exact ⟨by kernel_rfl, of_decide_eq_true (by kernel_rfl)⟩
set_option maxRecDepth 100000 in
theorem blakeHalves_lifted (os : Os) (started : os.Started) (H : Type) (enc : TypeId × Value → H) :
    ReturnsInHanded {} Tryd.checked os 6 .any (fun w args => (Rows.blakeHalvesSpec.pre enc Tryd.prog Tryd.f6 [] false w args ∧ laidMetH Tryd.prog Rows.blakeHalvesRow.laid w) ∧ sizedMet enc Tryd.prog Tryd.f6 (OpenSpec.ofChange Rows.blakeHalvesSpec) false w args)
      (Rows.blakeHalvesSpec.post enc Tryd.prog Tryd.f6 false true false false) := by
  refine returnsInHanded_of_change_and (C := Tryd.checked) (X := fun w _ => laidMetH Tryd.prog Rows.blakeHalvesRow.laid w) (fun _ _ _ hh h => h.of_heap hh) own started (by kernel_rfl) Tryd.func6
    (ChangeSpec.witness_shaped (enc := enc) (C := Tryd.checked) (os := os) (X := fun w _ => laidMetH Tryd.prog Rows.blakeHalvesRow.laid w) false (World.doorLaid Tryd.prog 400 os) #[.int .u8 0] 8 rfl (World.shaped_of_RefB (by kernel_rfl) (by kernel_rfl)) (by kernel_rfl) (by kernel_rfl) (by kernel_rfl) (blakeHalves_door os _)) ?_
  intro W base args ds gs before hval0 hW _ hreach hL _
  have hval : ∀ (j : Nat) t v, Tryd.f6.params[j]? = some t → args[j]? = some v → Value.okWide Tryd.prog W .any base t v := hval0
  have hW' := hW
  obtain ⟨p, q, hA0, hV, hbef, hfz, hnd⟩ := hW
  have hA : DataW.TrodAll enc Tryd.prog W 0 (fun _ => true) true Tryd.f6.params.toList args.toList ds p := hA0
  have hgs : gs = [] := by cases gs with | nil => rfl | cons g r => exact absurd hV (by intro h; cases h)
  subst hgs
  have fin : ds.length = 1 → ∀ (e : Ending) (W' : World), e = .returned (.bool true) ∧ Old W W' → ∃ v, e = .returned v ∧ Rows.blakeHalvesSpec.post enc Tryd.prog Tryd.f6 false true false false W args v W' := by
    rintro hd e W' ⟨rfl, hb⟩
    exact ⟨_, rfl, law_post hW' rfl blakeHalves_reads rfl (by rw [List.append_nil]; exact blakeHalves_fn ds hd) hb⟩
  rw [blakeHalves_params] at hA hval
  exact blakeHalves_open W base args ds p hL hval hA fin

theorem blakeHalves_holds : Rows.BlakeHalvesSaid :=
  OpenClaim.holds_of_wide 6 Tryd.f6 rfl rfl rfl rfl rfl rfl rfl ⟨rfl, rfl, rfl, rfl, rfl⟩ rfl rfl rfl rfl rfl (by kernel_rfl) Tryd.func6 (by kernel_rfl)
    (of_decide_eq_true (by kernel_rfl)) (by unfold Func.isWrapper; first | (rw [if_pos (by decide +kernel)]; kernel_rfl) | (rw [if_neg (by decide +kernel)]; exact ⟨rfl, rfl⟩))
    (fun os started H enc _ => blakeHalves_lifted os started H enc)
theorem blakeHalves_card : Rows.BlakeHalvesCardSaid :=
  Claim7.holds_tied_plain_at .later [] Rows.blakeHalvesCard.laidKinds true Rows.blakeHalvesCard.stood.harness Rows.blakeHalvesCard.stood.looks
    blakeHalves_holds (fun _ h => by cases h) (by kernel_rfl) (fun _ h => by cases h) blakeHalves_row_tie rfl ⟨rfl, rfl⟩ (by kernel_rfl) rfl
    (fun f fn hf hfn => by
      obtain rfl : f = 6 := Option.some.inj ((show Tryd.prog.funcNamed Rows.blakeHalvesRow.func = some 6 by kernel_rfl).symm.trans hf) |>.symm
      obtain rfl : fn = Tryd.f6 := (Option.some.inj (Tryd.func6.symm.trans hfn)).symm
      exact ⟨by kernel_rfl, fun j t ht => by
        rw [blakeHalves_params] at ht
        have hm : t ∈ [5] := by simpa using Array.mem_of_getElem? ht
        have hall : ([5].all fun u => !Tryd.prog.wantsStandIn u) = true := by kernel_rfl
        exact (show Tryd.prog.wantsStandIn t = false by simpa using List.all_eq_true.1 hall t hm)⟩)
    (by kernel_rfl)
#print axioms blakeHalves_card
end Go.Proofs.YtgodccgbhpannaaDoor
