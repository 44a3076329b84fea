/- The law PathsApart returns true at every list of files and every path: of up to a hundred files those apart from a path, those below it and those at it are all. Conditions: the row's own (the listed variables hold what the program's text lays). -/
import Derived.Test.YtcmbmbdjdkldoaaDoorPathsAA
import Derived.Test.YtcmbmbdjdkldoaaDoorLiftF
import Derived.Test.YtcmbmbdjdkldoaaDoorCards
import Derived.Test.YtcmbmbdjdkldoaaDoorTie
namespace Go.Proofs.YtcmbmbdjdkldoaaDoor
open Go.ChangeShapes Go.WideShapes Go.ChangeAt Go.ChangeMaps Go.RowKit

set_option maxHeartbeats 2000000 in
set_option maxRecDepth 100000 in
theorem pathsApart_walk (w : World) (v : Value) (l : List M.Fi) (hv : Fl w v l) (hl : l.length ≤ maxLen) (_ : ∀ f, f ∈ l → f.1.length ≤ maxLen ∧ f.2.length ≤ maxLen) (s : ByteArray) (hs : s.size ≤ maxLen) (hm : Mx w) :
    Calls Tryd.prog 9 #[v, .string s] w fun e w' => e = .returned (.bool true) ∧ Old w w' := by
  obtain ⟨⟨s⟩⟩ := s
  have G0 := Lib.hid (few_any v l w hv hl)
  have hsz := size_mk s
  obtain ⟨p, cap, rfl⟩ := hv.len
  by_cases hfew : M.few l = true
  · obtain ⟨hl3, _, hal⟩ := few_alls hfew
    rw [hfew] at G0
    by_cases hbig : 500 < s.length
    · clear hal
      have GA := Lib.hid (awake_any w hm)
      go_enter Tryd.func9, Tryd.ntmps9
      go_wp2_with (first
        | ((with_reducible refine G0.out.mono ?_); rintro e w0 ⟨rfl, rfl⟩)
        | ((with_reducible refine GA.out.mono ?_); rintro e w3 ⟨rfl, o3⟩))
      go_ret
      exact ⟨rfl, o3⟩
    · have hs2 : s.length ≤ 1099511627776 := by omega
      have GA := Lib.hid (fun w1 hm => awake_any w1 hm)
      have HM := Lib.hid hm
      have H := Lib.hid hv
      have G1 := Lib.hid (without_any _ l s w hv hal hs2)
      have G2 := Lib.hid (fun w1 (h : Fl w1 (.slice p l.length cap) l) => under_any _ l s w1 h hal hs2)
      have HL := Lib.hid (apart_len l s)
      have hat := at_len l s
      clear hm hv hal hfew hl
      go_enter Tryd.func9, Tryd.ntmps9
      go_wp2_with (first
        | ((with_reducible refine G0.out.mono ?_); rintro e w0 ⟨rfl, rfl⟩))
      go_loopw [5, 6] (fun c i wr => ∃ k : Nat, k ≤ l.length ∧ i = .int .i64 k ∧ c = .int .i64 (M.at (l.take k) s) ∧ wr = w) (fun _ i _ => l.length - (intOf i).toNat)
      case atStart => exact ⟨0, Nat.zero_le _, rfl, rfl, rfl⟩
      case round =>
        obtain ⟨k, hk, rfl, rfl, rfl⟩ := hrel
        by_cases hlt : k < l.length
        · obtain ⟨b, off, rfl, hb, hc⟩ := H.out.at (by intro h; rw [h] at hlt; exact absurd hlt (Nat.not_lt_zero _))
          obtain ⟨hc0, hc1⟩ := hc k hlt
          have hst := at_step (s := s) hlt
          have hcl := at_len (l.take k) s
          rw [List.length_take] at hcl
          clear hc
          generalize hx : l[k].1 = x at *
          by_cases hxs : x = s
          · have e1 : (x == s) = true := by rw [beq_list, decide_eq_true hxs]
            rw [if_pos e1] at hst
            have HST := Lib.hid hst
            clear hst hxs hx
            go_wp2
            go_roundw
            case rel => exact ⟨k + 1, by omega, by go_num, by rw [HST.out]; go_num, by trivial⟩
            case measure => simp [intOf]; omega
          · have e1 : (x == s) = false := by rw [beq_list, decide_eq_false hxs]
            rw [if_neg (by rw [e1]; simp)] at hst
            have HST := Lib.hid hst
            clear hst hxs hx
            go_wp2
            go_roundw
            case rel => exact ⟨k + 1, by omega, by go_num, by rw [HST.out, Nat.add_zero], by trivial⟩
            case measure => simp [intOf]; omega
        · obtain rfl : k = l.length := by omega
          rw [List.take_length] at *
          have hsum := HL.out
          have hlw := without_len l s
          have hlu := under_len l s
          generalize M.at l s = ca at *
          generalize M.without l s = xw at *
          generalize M.under l s = xu at *
          go_wp2_with (first
            | ((with_reducible refine G1.out.mono ?_); rintro e w1 ⟨u1, rfl, hu1, o1⟩; obtain ⟨p1, cap1, rfl⟩ := hu1.fl.len)
            | ((with_reducible refine (G2.out _ (H.out.old o1)).mono ?_); rintro e w2 ⟨u2, rfl, hu2, o2'⟩; obtain ⟨p2, cap2, rfl⟩ := hu2.fl.len; have o2 := o1.trans o2')
            | ((with_reducible refine (GA.out _ (HM.out.old o2)).mono ?_); rintro e wz ⟨rfl, oz⟩))
          go_ret
          exact ⟨rfl, o2.trans oz⟩
  · rw [Bool.not_eq_true] at hfew
    rw [hfew] at G0
    have GA := Lib.hid (awake_any w hm)
    go_enter Tryd.func9, Tryd.ntmps9
    go_wp2_with (first
      | ((with_reducible refine G0.out.mono ?_); rintro e w0 ⟨rfl, rfl⟩)
      | ((with_reducible refine GA.out.mono ?_); rintro e w3 ⟨rfl, o3⟩))
    go_ret
    exact ⟨rfl, o3⟩

theorem pathsApart_open {H : Type} {enc : TypeId × Value → H} {Q : Ending → World → Prop} (W : World) (base : Nat) (args : Array Value) (ds : List (DataW H)) (p : List MemPlace) (hsh : W.ShapedOpen Tryd.prog)
    (hval : ∀ (j : Nat) t v, (#[26, 9] : Array TypeId)[j]? = some t → args[j]? = some v → Value.okWide Tryd.prog W .any base t v)
    (hA : DataW.TrodAll enc Tryd.prog W 0 (fun _ => true) true [26, 9] args.toList ds p) (fin : ds.length = 2 → ∀ (e : Ending) (W' : World), e = .returned (.bool true) ∧ Old W W' → Q e W') :
    Calls Tryd.prog 9 args W Q := by
  have f_sh := mx_of hsh
  obtain ⟨v0, v1, d0, d1, p0, p1, rfl, rfl, _, hd0, hd1⟩ := trodAll_two hA
  obtain ⟨l0, hv0, hl0, hs0⟩ := open_files Tryd.underlying26 (hval 0 26 v0 rfl rfl) hd0
  obtain ⟨s1, rfl, rfl, rfl, hs1⟩ := open_string Tryd.underlying9 (hval 1 9 v1 rfl rfl) hd1
  exact (pathsApart_walk W v0 l0 hv0 hl0 hs0 s1 hs1 f_sh).mono (fin rfl)
theorem pathsApart_params : Tryd.f9.params = #[26, 9] := rfl
theorem pathsApart_door (os : Os) (args : Array Value) : laidMetH Tryd.prog Rows.pathsApartRow.laid ((World.laidAll Tryd.prog os Rows.pathsApartRow.laid).forCall (fun _ _ => 0) ⟨#[], args, []⟩).memory := by
  rw [MakeChecks.laidMetH_plain _ _ _ (by kernel_rfl)]
  exact laidMet_laidAll _ (by kernel_rfl) (by kernel_rfl)
theorem pathsApart_fn {H : Type} (ds : List (DataW H)) (h : ds.length = 2) : Rows.pathsApartSpec.fn H ds = { results := [.lit (.bool true)], args := ds } := by
  match ds, h with
  | [_, _], _ => rfl
theorem pathsApart_reads : ∀ t ∈ Tryd.f9.params.toList, Tryd.prog.readableRec t = true ∧ t < Tryd.prog.types.size := by
  rw [pathsApart_params]; intro t ht; simp at ht; rcases ht with rfl | rfl <;> exact ⟨by kernel_rfl, of_decide_eq_true (by kernel_rfl)⟩
set_option maxRecDepth 100000 in
theorem pathsApart_lifted (os : Os) (started : os.Started) (H : Type) (enc : TypeId × Value → H) :
    ReturnsInHanded {} Tryd.checked os 9 .any (fun w args => (Rows.pathsApartSpec.pre enc Tryd.prog Tryd.f9 [] false w args ∧ laidMetH Tryd.prog Rows.pathsApartRow.laid w) ∧ sizedMet enc Tryd.prog Tryd.f9 (OpenSpec.ofChange Rows.pathsApartSpec) false w args)
      (Rows.pathsApartSpec.post enc Tryd.prog Tryd.f9 false true false false) := by
  refine handed_shaped (X := fun w => laidMetH Tryd.prog Rows.pathsApartRow.laid w) (fun _ _ hh h => h.of_heap hh) started (by kernel_rfl) Tryd.func9
    (ChangeSpec.witness_shaped (enc := enc) (C := Tryd.checked) (os := os) (X := fun w _ => laidMetH Tryd.prog Rows.pathsApartRow.laid w) false (World.laidAll Tryd.prog os Rows.pathsApartRow.laid) #[.slice none 0 0, .string ⟨#[]⟩] 8 (World.laidAll_os _ _ _) (World.shaped_of_ZipB (by kernel_rfl) (by kernel_rfl)) (by kernel_rfl) (by kernel_rfl) (by kernel_rfl) (pathsApart_door os _)) ?_
  intro W base args ds gs before hval0 hW hL _
  have hval : ∀ (j : Nat) t v, Tryd.f9.params[j]? = some t → args[j]? = some v → Value.okWide Tryd.prog W .any base t v := hval0
  have hW' := hW
  obtain ⟨p, q, hA0, hV, hbef, hfz, hnd⟩ := hW
  have hA : DataW.TrodAll enc Tryd.prog W 0 (fun _ => true) true Tryd.f9.params.toList args.toList ds p := hA0
  have hgs : gs = [] := by cases gs with | nil => rfl | cons g r => exact absurd hV (by intro h; cases h)
  subst hgs
  have fin : ds.length = 2 → ∀ (e : Ending) (W' : World), e = .returned (.bool true) ∧ Old W W' → ∃ v, e = .returned v ∧ Rows.pathsApartSpec.post enc Tryd.prog Tryd.f9 false true false false W args v W' := by
    rintro hd e W' ⟨rfl, hb⟩
    exact ⟨_, rfl, law_post hW' rfl pathsApart_reads rfl (by rw [List.append_nil]; exact pathsApart_fn ds hd) hb⟩
  rw [pathsApart_params] at hA hval
  exact pathsApart_open W base args ds p hL hval hA fin

theorem pathsApart_holds : Rows.PathsApartSaid :=
  OpenClaim.holds_of_wide 9 Tryd.f9 rfl rfl rfl rfl rfl rfl rfl ⟨rfl, rfl, rfl, rfl, rfl⟩ rfl rfl rfl rfl rfl (by kernel_rfl) Tryd.func9 (by kernel_rfl)
    (of_decide_eq_true (by kernel_rfl)) (by unfold Func.isWrapper; first | (rw [if_pos (by decide +kernel)]; kernel_rfl) | (rw [if_neg (by decide +kernel)]; exact ⟨rfl, rfl⟩))
    (fun os started H enc _ => pathsApart_lifted os started H enc)
theorem pathsApart_card : Rows.PathsApartCardSaid :=
  Claim7.holds_tied_plain_at .later [] Rows.pathsApartCard.laidKinds true Rows.pathsApartCard.stood.harness Rows.pathsApartCard.stood.looks
    pathsApart_holds (fun _ h => by cases h) (by kernel_rfl) (fun _ h => by cases h) pathsApart_row_tie rfl ⟨rfl, rfl⟩ (by kernel_rfl) rfl
    (fun f fn hf hfn => by
      obtain rfl : f = 9 := Option.some.inj ((show Tryd.prog.funcNamed Rows.pathsApartRow.func = some 9 by kernel_rfl).symm.trans hf) |>.symm
      obtain rfl : fn = Tryd.f9 := (Option.some.inj (Tryd.func9.symm.trans hfn)).symm
      exact ⟨by kernel_rfl, fun j t ht => by
        rw [pathsApart_params] at ht
        have hm : t ∈ [26, 9] := by simpa using Array.mem_of_getElem? ht
        have hall : ([26, 9].all fun u => !Tryd.prog.wantsStandIn u) = true := by kernel_rfl
        exact (show Tryd.prog.wantsStandIn t = false by simpa using List.all_eq_true.1 hall t hm)⟩)
    (by kernel_rfl)
#print axioms pathsApart_card
end Go.Proofs.YtcmbmbdjdkldoaaDoor
