/- The law PackEnds returns true at every two texts and place: no packed text is the beginning of another one, and what is cut off is told. Conditions: the row's own (the listed variables hold what the program's text lays). -/
import Derived.Test.YtflkinglgnkchaaDoorPackH
import Derived.Test.YtflkinglgnkchaaDoorPackM3
import Derived.Test.YtflkinglgnkchaaDoorLaid
import Derived.Test.YtflkinglgnkchaaDoorCards
import Derived.Test.YtflkinglgnkchaaDoorTie
namespace Go.Proofs.YtflkinglgnkchaaDoor
open Go.ChangeShapes Go.WideShapes Go.ChangeAt Go.ChangeMaps Go.RowKit

theorem toList_data (a : ByteArray) : a.toList = a.data.toList := ByteArray.toList_eq a

set_option maxHeartbeats 1000000 in
set_option maxRecDepth 100000 in
theorem packEnds_long (w : World) (a b : ByteArray) (n : Int) (h : 2000 < a.size ∨ (a.size ≤ 2000 ∧ 2000 < b.size)) (ht : Tab w) :
    Calls Tryd.prog 8 #[.string a, .string b, .int .i64 n] w fun e w' => e = .returned (.bool true) ∧ Old w w' := by
  rcases h with h | ⟨h1, h⟩
  all_goals
    go_enter Tryd.func8, Tryd.ntmps8
    go_wp2_with ((with_reducible refine (awake_any _ ht).mono ?_); rintro e w1 ⟨rfl, o1⟩)
    go_ret
    exact ⟨rfl, o1⟩

set_option maxHeartbeats 2000000 in
set_option maxRecDepth 100000 in
theorem packEnds_short (w : World) (a b : ByteArray) (n : Int) (ha : a.size ≤ 2000) (hb : b.size ≤ 2000) (ht : Tab w) :
    Calls Tryd.prog 8 #[.string a, .string b, .int .i64 n] w fun e w' => e = .returned (.bool true) ∧ Old w w' := by
  have g1 := Lib.hid (fun w1 (t1 : Tab w1) => ptext_any a w1 t1 (by omega))
  have g2 := Lib.hid (fun w1 (t1 : Tab w1) => ptext_any b w1 t1 (by omega))
  have hza : a.data.toList.length = a.size := by simp
  have hzb : b.data.toList.length = b.size := by simp
  have hpre : ∀ r, M.pack b.data.toList = M.pack a.data.toList ++ r → a.data.toList = b.data.toList := fun r h => M.pack_prefix (by omega) (by omega) h
  have hsh := M.cut_short a.data.toList (by omega)
  have hp3 := M.pack_len3 a.data.toList
  have hpl := M.pack_len a.data.toList (by omega)
  have hpl2 := M.pack_len b.data.toList (by omega)
  rw [hza] at hpl
  rw [hzb] at hpl2
  generalize M.pack a.data.toList = P at *
  generalize M.pack b.data.toList = R at *
  have g4 := Lib.hid (fun w1 s => read_any s w1)
  have g5 := Lib.hid (fun w1 b r (r1 : Rd w1 b r) hs => text_any b r w1 r1 hs)
  have HSH := Lib.hid hsh
  have HPRE := Lib.hid hpre
  clear hza hzb hpre hsh
  have hP : (3 : Int) ≤ (P.length : Int) := by omega
  have hP2 : (P.length : Int) ≤ 2020 := by omega
  have t0 := Int.tmod_lt_of_pos n (show (0 : Int) < P.length by omega)
  have t1 : -(P.length : Int) < n.tmod P.length := by
    have := Int.lt_tmod_of_pos n (show (0 : Int) < P.length by omega)
    omega
  go_enter Tryd.func8, Tryd.ntmps8
  go_wp2_with fail
  refine (g1.out _ ht).mono ?_; rintro e w1 ⟨rfl, o1⟩
  go_wp2_with fail
  refine (g2.out _ (ht.old o1)).mono ?_; rintro e w2 ⟨rfl, o2⟩
  have q0 : 0 ≤ n.tmod P.length % P.length := Int.emod_nonneg _ (by omega)
  have q1 : n.tmod P.length % P.length ≤ P.length := by have := Int.emod_lt_of_pos (n.tmod P.length) (show (0 : Int) < P.length by omega); omega
  have q2 : (n.tmod P.length % P.length).toNat < P.length := by have := Int.emod_lt_of_pos (n.tmod P.length) (show (0 : Int) < P.length by omega); omega
  have hcase : a.toList = b.toList ∨ (¬ a.toList = b.toList ∧ ¬ P.length ≤ R.length) ∨ (¬ a.toList = b.toList ∧ P.length ≤ R.length ∧ (((⟨⟨R⟩⟩ : ByteArray).extract 0 P.length).toList == P) = false) := by
    by_cases h : a.toList = b.toList
    · exact Or.inl h
    · by_cases hl : P.length ≤ R.length
      · refine Or.inr (Or.inr ⟨h, hl, ?_⟩)
        rw [beq_eq_false_iff_ne]
        intro hx
        apply h
        rw [toList_data, toList_data]
        refine HPRE.out (R.drop P.length) ?_
        rw [toList_data] at hx
        have hx' : R.take P.length = P := by simpa using hx
        conv => lhs; rw [← List.take_append_drop P.length R, hx']
      · exact Or.inr (Or.inl ⟨h, hl⟩)
  have hread : ∀ w1 e w', (e = Ending.returned (.pointer (some ⟨w1.heap.size, 0, none⟩)) ∧ w' = World.alloc w1 (.cells #[.string ((⟨⟨P⟩⟩ : ByteArray).extract 0 (n.tmod P.length % P.length).toNat), .int .i64 0] 55)) → Rd w' w1.heap.size (P.take (n.tmod P.length % P.length).toNat, 0) := by
    rintro w1 e w' ⟨_, rfl⟩
    have h := Blk.new w1 #[.string ((⟨⟨P⟩⟩ : ByteArray).extract 0 (n.tmod P.length % P.length).toNat), .int .i64 0] 55
    rw [ba_eq (a := (⟨⟨P⟩⟩ : ByteArray).extract 0 (n.tmod P.length % P.length).toNat) (l := P.take (n.tmod P.length % P.length).toNat) (by simp)] at h ⊢
    exact h
  have hnx : nextS (P.take (n.tmod P.length % P.length).toNat, 0) = ([], false, ([], 10)) := by
    have := HSH.out _ q2
    simp [nextS, this]
  have o12 := o1.trans o2
  have HREAD := Lib.hid hread
  have HNX := Lib.hid hnx
  clear hread hnx g1 g2 HSH HPRE o1 o2
  rcases hcase with hc | ⟨hc, hl⟩ | ⟨hc, hl, hx⟩
  all_goals
    go_wp2_with fail
    refine (g4.out w2 _).mono ?_
    intro e w3 he
    have r3 := HREAD.out w2 e w3 he
    obtain ⟨rfl, hw3⟩ := he
    have o3 : Old w w3 := o12.trans (by rw [hw3]; exact Old.alloc _ _)
    clear hw3
    go_wp2_with fail
    refine (g5.out w3 _ _ r3 ?_).mono ?_
    · simp only [List.length_take, maxLen]; omega
    rintro e w4 ⟨rfl, r4, k4⟩
    have o4 : Old w w4 := Below.trans o3 (k4.below o3.size (fun k hk => by have := o12.size; omega))
    rw [HNX.out] at r4
    simp only [HNX.out]
    go_wp2_with fail
    refine (end_any _ _ _ r4).mono ?_; rintro e w5 ⟨rfl, rfl⟩
    simp only [endOf]
    go_wp2_with ((with_reducible refine (awake_any _ (ht.old o4)).mono ?_); rintro e w6 ⟨rfl, o6⟩)
    go_ret
    exact ⟨rfl, o4.trans o6⟩

theorem packEnds_walk (w : World) (a : ByteArray) (_ha : a.size ≤ maxLen) (b : ByteArray) (_hb : b.size ≤ maxLen) (n : Int) (_ : -9223372036854775808 ≤ n) (_ : n ≤ 9223372036854775807) (ht : Tab w) :
    Calls Tryd.prog 8 #[.string a, .string b, .int .i64 n] w fun e w' => e = .returned (.bool true) ∧ Old w w' := by
  by_cases ha : a.size ≤ 2000
  · by_cases hb : b.size ≤ 2000
    · exact packEnds_short w a b n ha hb ht
    · exact packEnds_long w a b n (Or.inr ⟨ha, by omega⟩) ht
  · exact packEnds_long w a b n (Or.inl (by omega)) ht

theorem packEnds_open {H : Type} {enc : TypeId × Value → H} {Q : Ending → World → Prop} (W : World) (base : Nat) (args : Array Value) (ds : List (DataW H)) (p : List MemPlace) (hL : laidMetH Tryd.prog Rows.packEndsRow.laid W)
    (hval : ∀ (j : Nat) t v, (#[9, 9, 3] : Array TypeId)[j]? = some t → args[j]? = some v → Value.okWide Tryd.prog W .any base t v)
    (hA : DataW.TrodAll enc Tryd.prog W 0 (fun _ => true) true [9, 9, 3] args.toList ds p) (fin : ds.length = 3 → ∀ (e : Ending) (W' : World), e = .returned (.bool true) ∧ Old W W' → Q e W') :
    Calls Tryd.prog 8 args W Q := by
  rw [MakeChecks.laidMetH_plain _ _ _ (by kernel_rfl)] at hL
  have ft := tab_of hL (by simp [Rows.packEndsRow])
  obtain ⟨v0, v1, v2, d0, d1, d2, p0, p1, p2, rfl, rfl, _, hd0, hd1, hd2⟩ := trodAll_three hA
  obtain ⟨s0, rfl, rfl, rfl, hs0⟩ := open_string Tryd.underlying9 (hval 0 9 v0 rfl rfl) hd0
  obtain ⟨s1, rfl, rfl, rfl, hs1⟩ := open_string Tryd.underlying9 (hval 1 9 v1 rfl rfl) hd1
  obtain ⟨n2, rfl, rfl, rfl, hw2⟩ := open_int Tryd.underlying3 (hval 2 3 v2 rfl rfl) hd2
  have hb2 := bound_int hw2
  exact (packEnds_walk W s0 hs0 s1 hs1 n2 hb2.1 hb2.2 ft).mono (fin rfl)
theorem packEnds_params : Tryd.f8.params = #[9, 9, 3] := rfl
theorem packEnds_door (os : Os) (args : Array Value) : laidMetH Tryd.prog Rows.packEndsRow.laid ((World.doorLaid Tryd.prog 400 os).forCall (fun _ _ => 0) ⟨#[], args, []⟩).memory :=
  laidMetH_of_parts3 (fuel := 8) (laidMet_of_run' 8 (by kernel_rfl) (by kernel_rfl)) (by kernel_rfl) (by kernel_rfl)
theorem packEnds_fn {H : Type} (ds : List (DataW H)) (h : ds.length = 3) : Rows.packEndsSpec.fn H ds = { results := [.lit (.bool true)], args := ds } := by
  match ds, h with
  | [_, _, _], _ => rfl
theorem packEnds_reads : ∀ t ∈ Tryd.f8.params.toList, Tryd.prog.readableRec t = true ∧ t < Tryd.prog.types.size := by
  rw [packEnds_params]; intro t ht; simp at ht; rcases ht with rfl | rfl | rfl <;> exact ⟨by kernel_rfl, of_decide_eq_true (by kernel_rfl)⟩
set_option maxRecDepth 100000 in
theorem packEnds_lifted (os : Os) (started : os.Started) (H : Type) (enc : TypeId × Value → H) :
    ReturnsInHanded {} Tryd.checked os 8 .any (fun w args => (Rows.packEndsSpec.pre enc Tryd.prog Tryd.f8 [] false w args ∧ laidMetH Tryd.prog Rows.packEndsRow.laid w) ∧ sizedMet enc Tryd.prog Tryd.f8 (OpenSpec.ofChange Rows.packEndsSpec) false w args)
      (Rows.packEndsSpec.post enc Tryd.prog Tryd.f8 false true false false) := by
  refine returnsInHanded_of_change_and (C := Tryd.checked) (X := fun w _ => laidMetH Tryd.prog Rows.packEndsRow.laid w) (fun _ _ _ hh h => h.of_heap hh) own started (by kernel_rfl) Tryd.func8
    (ChangeSpec.witness_shaped (enc := enc) (C := Tryd.checked) (os := os) (X := fun w _ => laidMetH Tryd.prog Rows.packEndsRow.laid w) false (World.doorLaid Tryd.prog 400 os) #[.string ⟨#[]⟩, .string ⟨#[]⟩, .int .i64 0] 8 rfl (World.shaped_of_RefB (by kernel_rfl) (by kernel_rfl)) (by kernel_rfl) (by kernel_rfl) (by kernel_rfl) (packEnds_door os _)) ?_
  intro W base args ds gs before hval0 hW _ hreach hL _
  have hval : ∀ (j : Nat) t v, Tryd.f8.params[j]? = some t → args[j]? = some v → Value.okWide Tryd.prog W .any base t v := hval0
  have hW' := hW
  obtain ⟨p, q, hA0, hV, hbef, hfz, hnd⟩ := hW
  have hA : DataW.TrodAll enc Tryd.prog W 0 (fun _ => true) true Tryd.f8.params.toList args.toList ds p := hA0
  have hgs : gs = [] := by cases gs with | nil => rfl | cons g r => exact absurd hV (by intro h; cases h)
  subst hgs
  have fin : ds.length = 3 → ∀ (e : Ending) (W' : World), e = .returned (.bool true) ∧ Old W W' → ∃ v, e = .returned v ∧ Rows.packEndsSpec.post enc Tryd.prog Tryd.f8 false true false false W args v W' := by
    rintro hd e W' ⟨rfl, hb⟩
    exact ⟨_, rfl, law_post hW' rfl packEnds_reads rfl (by rw [List.append_nil]; exact packEnds_fn ds hd) hb⟩
  rw [packEnds_params] at hA hval
  exact packEnds_open W base args ds p hL hval hA fin

theorem packEnds_holds : Rows.PackEndsSaid :=
  OpenClaim.holds_of_wide 8 Tryd.f8 rfl rfl rfl rfl rfl rfl rfl ⟨rfl, rfl, rfl, rfl, rfl⟩ rfl rfl rfl rfl rfl (by kernel_rfl) Tryd.func8 (by kernel_rfl)
    (of_decide_eq_true (by kernel_rfl)) (by unfold Func.isWrapper; first | (rw [if_pos (by decide +kernel)]; kernel_rfl) | (rw [if_neg (by decide +kernel)]; exact ⟨rfl, rfl⟩))
    (fun os started H enc _ => packEnds_lifted os started H enc)
theorem packEnds_card : Rows.PackEndsCardSaid :=
  Claim7.holds_tied_plain_at .later [] Rows.packEndsCard.laidKinds true Rows.packEndsCard.stood.harness true
    packEnds_holds (fun _ h => by cases h) (by kernel_rfl) (fun _ h => by cases h) packEnds_row_tie rfl ⟨rfl, rfl⟩ (by kernel_rfl) rfl
    (fun f fn hf hfn => by
      obtain rfl : f = 8 := Option.some.inj ((show Tryd.prog.funcNamed Rows.packEndsRow.func = some 8 by kernel_rfl).symm.trans hf) |>.symm
      obtain rfl : fn = Tryd.f8 := (Option.some.inj (Tryd.func8.symm.trans hfn)).symm
      exact ⟨by kernel_rfl, fun j t ht => by
        rw [packEnds_params] at ht
        have hm : t ∈ [9, 9, 3] := by simpa using Array.mem_of_getElem? ht
        have hall : ([9, 9, 3].all fun u => !Tryd.prog.wantsStandIn u) = true := by kernel_rfl
        exact (show Tryd.prog.wantsStandIn t = false by simpa using List.all_eq_true.1 hall t hm)⟩)
    (by kernel_rfl)
#print axioms packEnds_card
end Go.Proofs.YtflkinglgnkchaaDoor
