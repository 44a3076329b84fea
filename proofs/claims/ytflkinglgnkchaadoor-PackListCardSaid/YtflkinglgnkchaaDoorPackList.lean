/- The law PackList returns true at every list of texts: texts packed together are what the document says, and the list handed in stays. Conditions: the row's own (the listed variables hold what the program's text lays). -/
import Derived.Test.YtflkinglgnkchaaDoorRefB
import Derived.Test.YtflkinglgnkchaaDoorLaid
import Derived.Test.YtflkinglgnkchaaDoorCards
import Derived.Test.YtflkinglgnkchaaDoorTie
namespace Go.Proofs.YtflkinglgnkchaaDoor
open Go.ChangeShapes Go.WideShapes Go.ChangeAt Go.ChangeMaps Go.RowKit

theorem packs_bound {l : List (List UInt8)} (h : ∀ s ∈ l, s.length ≤ 2000) : (M.packs l).length ≤ l.length * 2020 := by
  induction l with
  | nil => simp [M.packs]
  | cons s l ih =>
    have h1 := ih (fun x hx => h x (by simp [hx]))
    have h2 := M.pack_len s (by have := h s (by simp); omega)
    have h3 := h s (by simp)
    have e : M.packs (s :: l) = M.pack s ++ M.packs l := by simp [M.packs]
    rw [e]
    simp only [List.length_append, List.length_cons]
    omega
theorem few_true {l : List (List UInt8)} (h : fewB l = true) : l.length ≤ 200 ∧ ∀ s ∈ l, s.length ≤ 2000 := by
  simpa [fewB] using h

/-- append([]string{}, l...): the same texts, in memory of the call's own. -/
theorem Sl.news {B : Nat} {w : World} {a : Addr} {n cap : Nat} {xs : List Value} (h : Sl B w (.slice (some a) n cap) xs) (o : Obj) : ∀ j u, xs[j]? = some u → (w.alloc o).cell? (a.add j) = some u := by
  intro j u hu
  have hj : j < xs.length := (List.getElem?_eq_some_iff.1 hu).1
  obtain ⟨b, off, hp, _, hc⟩ := h.at (by rintro rfl; simp at hj)
  injection hp with hp
  subst hp
  have e : (Addr.add ⟨b, off, none⟩ j) = ⟨b, off + j, none⟩ := by
    unfold Addr.add
    split
    · rename_i h0; subst h0; rfl
    · rfl
  have hcj := (hc j hj).trans hu
  rw [e, World.cell?_alloc_past _ _ _ (World.block_lt_of_cell? _ _ hcj)]
  exact hcj

set_option maxHeartbeats 2000000 in
set_option maxRecDepth 100000 in
theorem packList_few (w : World) (v : Value) (l : List (List UInt8)) (hv : Sl w.heap.size w v (l.map vstr)) (hl : l.length ≤ 200) (hs : ∀ s, s ∈ l → s.length ≤ 2000) (hf : fewB l = true) (ht : Tab w) :
    Calls Tryd.prog 5 #[v] w fun e w' => e = .returned (.bool true) ∧ Old w w' := by
  obtain ⟨i0, hi, hz0, hz1, hz2⟩ := info_parts infoString
  have hpb := packs_bound hs
  have hF := Lib.hid (few_any v l w.heap.size w hv (by unfold maxLen; omega))
  rw [hf] at hF
  have hP : (M.packs l).length ≤ 140737488355328 := by omega
  have hE : ∀ s, s ∈ l → s.length ≤ 9223372036854775000 := fun s h => Nat.le_trans (hs s h) (by decide)
  have g1 := Lib.hid (fun (v' : Value) (w1 : World) (o1 : Old w w1) (s1 : Sl w1.heap.size w1 v' (l.map vstr)) => plist_any v' l w1.heap.size w1 (ht.old o1) s1 (Nat.le_refl _) (by unfold maxLen; omega) hP hE)
  have g2 := Lib.hid (fun (w1 : World) (o1 : Old w w1) => reflist_any v l w.heap.size w1 (hv.below o1) o1.size (by unfold maxLen; omega) hP hE)
  have g3 := Lib.hid (fun (v' : Value) (w1 : World) (o1 : Old w w1) (B : Nat) (s1 : Sl B w1 v' (l.map vstr)) => texts_any v' v l l B w.heap.size w1 s1 (hv.below o1) (by unfold maxLen; omega))
  have g4 := Lib.hid (fun (w1 : World) (o1 : Old w w1) => awake_any w1 (ht.old o1))
  have hrow : (w.alloc (.cells #[] 9)).ownsRow w.heap.size 9 1 (.slice (some ⟨w.heap.size, 0, none⟩) 0 0) 0 [] :=
    ⟨rfl, Or.inr ⟨w.heap.size, 0, #[], rfl, Nat.le_refl _, Blk.new w _ _, Nat.le_refl _, Nat.zero_le _, rfl, rfl⟩⟩
  have o0 : Old w (w.alloc (.cells #[] 9)) := Old.alloc _ _
  have fin : ∀ (v' : Value) (w1 : World), w1.ownsRow w.heap.size 9 1 v' l.length (l.map vstr) → Old w w1 → Sl w1.heap.size w1 v' (l.map vstr) := by
    intro v' w1 h1 _
    exact Sl.of_row (e := 9) (B := w.heap.size) (by simpa using h1)
  have FIN := Lib.hid fin
  clear fin hpb hs hP hE hf
  have hv2 := hv
  obtain ⟨p, cap, rfl, hcap, hx⟩ := hv
  have hlen : (l.map vstr).length = l.length := by simp
  rw [hlen] at hv2 hF g2 g3 ⊢
  cases p with
  | none =>
    obtain rfl : cap = 0 := hcap rfl
    obtain rfl : l = [] := by
      cases l with
      | nil => rfl
      | cons c r => obtain ⟨b, off, hp, _⟩ := hx (by simp); cases hp
    simp only [List.length_nil] at *
    have s1 := FIN.out _ _ hrow o0
    go_enter Tryd.func5, Tryd.ntmps5
    go_wp2_with (first
      | ((with_reducible refine hF.out.mono ?_); rintro e w' ⟨rfl, rfl⟩)
      | (at_builtin; refine wpList_append_own_none _ rfl _ _ 27 rfl w.heap.size 9 i0 1 Tryd.underlying27 hi _ 0 [] rfl hrow rfl ?_)
      | ((with_reducible refine (g1.out _ _ o0 s1).mono ?_); rintro e w1 ⟨rfl, o1⟩)
      | ((with_reducible refine (g2.out _ (o0.trans o1)).mono ?_); rintro e w2 ⟨rfl, o2⟩)
      | ((with_reducible refine (g3.out _ _ ((o0.trans o1).trans o2) _ (s1.below (o1.trans o2))).mono ?_); rintro e w3 ⟨rfl, n3, rfl⟩)
      | ((with_reducible refine (g4.out _ (((o0.trans o1).trans o2).trans (Old.drewN _ n3))).mono ?_); rintro e w4 ⟨rfl, o4⟩))
    go_ret
    exact ⟨rfl, (((o0.trans o1).trans o2).trans (Old.drewN _ n3)).trans o4⟩
  | some a =>
    have hnews := hv2.news (xs := l.map vstr) (.cells #[] 9)
    have hone : ∀ u ∈ l.map vstr, u.oneCell' = true := by
      intro u hu; obtain ⟨s, _, rfl⟩ := List.mem_map.1 hu; rfl
    have HNEWS := Lib.hid hnews
    have HONE := Lib.hid hone
    clear hnews hone hx hcap
    go_enter Tryd.func5, Tryd.ntmps5
    go_wp2_with (first
      | ((with_reducible refine hF.out.mono ?_); rintro e w' ⟨rfl, rfl⟩)
      | (at_builtin; refine wpList_append_own _ rfl _ _ 27 rfl w.heap.size 9 i0 (.string ⟨#[]⟩) 1 16 Tryd.underlying27 hi hz0 hz1 hz2 rfl (by decide) _ 0 [] rfl hrow a l.length cap (l.map vstr) rfl ?c0 HNEWS.out HONE.out ?c3 ?c4 ?c5 ?_))
    case c0 => simp
    case c3 => unfold maxLen; omega
    case c4 => omega
    case c5 => simp
    intro v' w1 hown hgrow _
    have o1 : Old w w1 := o0.grown hgrow (by simp) (fun g hg => row_from hrow g hg)
    have s1 := FIN.out _ _ hown o1
    clear hown hgrow
    go_wp2_with (first
      | ((with_reducible refine (g1.out _ _ o1 s1).mono ?_); rintro e w2 ⟨rfl, o2⟩)
      | ((with_reducible refine (g2.out _ (o1.trans o2)).mono ?_); rintro e w3 ⟨rfl, o3⟩)
      | ((with_reducible refine (g3.out _ _ ((o1.trans o2).trans o3) _ (s1.below (o2.trans o3))).mono ?_); rintro e w4 ⟨rfl, n4, rfl⟩)
      | ((with_reducible refine (g4.out _ (((o1.trans o2).trans o3).trans (Old.drewN _ n4))).mono ?_); rintro e w5 ⟨rfl, o5⟩))
    go_ret
    exact ⟨rfl, (((o1.trans o2).trans o3).trans (Old.drewN _ n4)).trans o5⟩

set_option maxHeartbeats 1000000 in
theorem packList_walk (w : World) (v : Value) (l : List (List UInt8)) (hv : Sl w.heap.size w v (l.map vstr)) (hl : l.length ≤ maxLen) (_hs : ∀ s, s ∈ l → s.length ≤ maxLen) (ht : Tab w) :
    Calls Tryd.prog 5 #[v] w fun e w' => e = .returned (.bool true) ∧ Old w w' := by
  cases hf : fewB l with
  | true => exact packList_few w v l hv (few_true hf).1 (few_true hf).2 hf ht
  | false =>
    have hF := Lib.hid (few_any v l w.heap.size w hv hl)
    rw [hf] at hF
    clear hf
    go_enter Tryd.func5, Tryd.ntmps5
    go_wp2_with (first
      | ((with_reducible refine hF.out.mono ?_); rintro e w' ⟨rfl, rfl⟩)
      | ((with_reducible refine (awake_any _ ht).mono ?_); rintro e w1 ⟨rfl, o1⟩))
    go_ret
    exact ⟨rfl, o1⟩

theorem packList_open {H : Type} {enc : TypeId × Value → H} {Q : Ending → World → Prop} (W : World) (base : Nat) (args : Array Value) (ds : List (DataW H)) (p : List MemPlace) (hL : laidMetH Tryd.prog Rows.packListRow.laid W)
    (hval : ∀ (j : Nat) t v, (#[27] : Array TypeId)[j]? = some t → args[j]? = some v → Value.okWide Tryd.prog W .any base t v)
    (hA : DataW.TrodAll enc Tryd.prog W 0 (fun _ => true) true [27] args.toList ds p) (fin : ds.length = 1 → ∀ (e : Ending) (W' : World), e = .returned (.bool true) ∧ Old W W' → Q e W') :
    Calls Tryd.prog 5 args W Q := by
  rw [MakeChecks.laidMetH_plain _ _ _ (by kernel_rfl)] at hL
  have ft := tab_of hL (by simp [Rows.packListRow])
  obtain ⟨v0, d0, rfl, rfl, hd0⟩ := trodAll_one hA
  obtain ⟨l0, hv0, hl0, hs0⟩ := open_texts Tryd.underlying27 (hval 0 27 v0 rfl rfl) hd0
  exact (packList_walk W v0 l0 hv0 hl0 hs0 ft).mono (fin rfl)
theorem packList_params : Tryd.f5.params = #[27] := rfl
theorem packList_door (os : Os) (args : Array Value) : laidMetH Tryd.prog Rows.packListRow.laid ((World.doorLaid Tryd.prog 400 os).forCall (fun _ _ => 0) ⟨#[], args, []⟩).memory :=
  laidMetH_of_parts3 (fuel := 8) (laidMet_of_run' 8 (by kernel_rfl) (by kernel_rfl)) (by kernel_rfl) (by kernel_rfl)
theorem packList_fn {H : Type} (ds : List (DataW H)) (h : ds.length = 1) : Rows.packListSpec.fn H ds = { results := [.lit (.bool true)], args := ds } := by
  match ds, h with
  | [_], _ => rfl
theorem packList_reads : ∀ t ∈ Tryd.f5.params.toList, Tryd.prog.readableRec t = true ∧ t < Tryd.prog.types.size := by
  rw [packList_params]; intro t ht; simp at ht; subst ht; exact ⟨by kernel_rfl, of_decide_eq_true (by kernel_rfl)⟩
set_option maxRecDepth 100000 in
theorem packList_lifted (os : Os) (started : os.Started) (H : Type) (enc : TypeId × Value → H) :
    ReturnsInHanded {} Tryd.checked os 5 .any (fun w args => (Rows.packListSpec.pre enc Tryd.prog Tryd.f5 [] false w args ∧ laidMetH Tryd.prog Rows.packListRow.laid w) ∧ sizedMet enc Tryd.prog Tryd.f5 (OpenSpec.ofChange Rows.packListSpec) false w args)
      (Rows.packListSpec.post enc Tryd.prog Tryd.f5 false true false false) := by
  refine returnsInHanded_of_change_and (C := Tryd.checked) (X := fun w _ => laidMetH Tryd.prog Rows.packListRow.laid w) (fun _ _ _ hh h => h.of_heap hh) own started (by kernel_rfl) Tryd.func5
    (ChangeSpec.witness_shaped (enc := enc) (C := Tryd.checked) (os := os) (X := fun w _ => laidMetH Tryd.prog Rows.packListRow.laid w) false (World.doorLaid Tryd.prog 400 os) #[.slice none 0 0] 8 rfl (World.shaped_of_RefB (by kernel_rfl) (by kernel_rfl)) (by kernel_rfl) (by kernel_rfl) (by kernel_rfl) (packList_door os _)) ?_
  intro W base args ds gs before hval0 hW _ hreach hL _
  have hval : ∀ (j : Nat) t v, Tryd.f5.params[j]? = some t → args[j]? = some v → Value.okWide Tryd.prog W .any base t v := hval0
  have hW' := hW
  obtain ⟨p, q, hA0, hV, hbef, hfz, hnd⟩ := hW
  have hA : DataW.TrodAll enc Tryd.prog W 0 (fun _ => true) true Tryd.f5.params.toList args.toList ds p := hA0
  have hgs : gs = [] := by cases gs with | nil => rfl | cons g r => exact absurd hV (by intro h; cases h)
  subst hgs
  have fin : ds.length = 1 → ∀ (e : Ending) (W' : World), e = .returned (.bool true) ∧ Old W W' → ∃ v, e = .returned v ∧ Rows.packListSpec.post enc Tryd.prog Tryd.f5 false true false false W args v W' := by
    rintro hd e W' ⟨rfl, hb⟩
    exact ⟨_, rfl, law_post hW' rfl packList_reads rfl (by rw [List.append_nil]; exact packList_fn ds hd) hb⟩
  rw [packList_params] at hA hval
  exact packList_open W base args ds p hL hval hA fin

theorem packList_holds : Rows.PackListSaid :=
  OpenClaim.holds_of_wide 5 Tryd.f5 rfl rfl rfl rfl rfl rfl rfl ⟨rfl, rfl, rfl, rfl, rfl⟩ rfl rfl rfl rfl rfl (by kernel_rfl) Tryd.func5 (by kernel_rfl)
    (of_decide_eq_true (by kernel_rfl)) (by unfold Func.isWrapper; first | (rw [if_pos (by decide +kernel)]; kernel_rfl) | (rw [if_neg (by decide +kernel)]; exact ⟨rfl, rfl⟩))
    (fun os started H enc _ => packList_lifted os started H enc)
theorem packList_card : Rows.PackListCardSaid :=
  Claim7.holds_tied_plain_at .later [] Rows.packListCard.laidKinds true Rows.packListCard.stood.harness true
    packList_holds (fun _ h => by cases h) (by kernel_rfl) (fun _ h => by cases h) packList_row_tie rfl ⟨rfl, rfl⟩ (by kernel_rfl) rfl
    (fun f fn hf hfn => by
      obtain rfl : f = 5 := Option.some.inj ((show Tryd.prog.funcNamed Rows.packListRow.func = some 5 by kernel_rfl).symm.trans hf) |>.symm
      obtain rfl : fn = Tryd.f5 := (Option.some.inj (Tryd.func5.symm.trans hfn)).symm
      exact ⟨by kernel_rfl, fun j t ht => by
        rw [packList_params] at ht
        have hm : t ∈ [27] := by simpa using Array.mem_of_getElem? ht
        have hall : ([27].all fun u => !Tryd.prog.wantsStandIn u) = true := by kernel_rfl
        exact (show Tryd.prog.wantsStandIn t = false by simpa using List.all_eq_true.1 hall t hm)⟩)
    (by kernel_rfl)
#print axioms packList_card
end Go.Proofs.YtflkinglgnkchaaDoor
