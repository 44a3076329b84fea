/- The document's look at a list of files. -/
import Derived.Test.YtcmbmbdjdkldoaaDoorPathsP
import Derived.Test.YtcmbmbdjdkldoaaDoorPathsS
import Derived.Deep.DeepCutAuto
namespace Go.Proofs.YtcmbmbdjdkldoaaDoor
open Go.RowKit

theorem kin_no {fs : List M.Fi} (h : ∀ j (hj : j < fs.length) q (hq : q < fs.length), M.below fs[j].1 fs[q].1 = false) {j : Nat} (hj : j < fs.length) : M.kin fs fs[j].1 = false :=
  List.any_eq_false.2 fun g hg => by
    obtain ⟨q, hq, rfl⟩ := List.getElem_of_mem hg
    rw [h j hj q hq, h q hq j hj]; simp
theorem kin_yes {fs : List M.Fi} {j q : Nat} (hj : j < fs.length) (hq : q < fs.length) (h : M.below fs[j].1 fs[q].1 = true) : M.kin fs fs[j].1 = true :=
  List.any_eq_true.2 ⟨fs[q], List.getElem_mem hq, by rw [h]; rfl⟩

set_option maxHeartbeats 4000000 in
set_option maxRecDepth 100000 in
theorem rcheck_any (v : Value) (fs : List M.Fi) (w : World) (h : Fl w v fs) (hf : Alls fs) :
    Calls Tryd.prog 24 #[v] w fun e w' => e = .returned (.int .i64 (M.check fs)) ∧ ∃ n, w' = w.drewN n := by
  have H := Lib.hid h
  have HF := Lib.hid hf
  have hlen := hf.1
  have G1 := Lib.hid (fun (s : List UInt8) (hs : s.length ≤ 1099511627776) w2 => rpath_any s (by unfold maxLen; omega) w2)
  have G2 := Lib.hid (fun (s t : List UInt8) (hs : s.length ≤ 1099511627776) (ht : t.length ≤ 1099511627776) w2 => rbelow_any s t hs ht w2)
  obtain ⟨p, cap, rfl⟩ := h.len
  clear h hf
  go_enter Tryd.func24, Tryd.ntmps24
  go_wp2
  go_loopw [3] (fun i wr => ∃ k : Nat, k ≤ fs.length ∧ i = .int .i64 k ∧ wr = w ∧ Hid (M.firstErr fs = M.firstErr (fs.drop k))) (fun i _ => fs.length - (intOf i).toNat)
  case atStart => exact ⟨0, Nat.zero_le _, rfl, rfl, Lib.hid rfl⟩
  case round =>
    obtain ⟨k, hk, rfl, rfl, hfe⟩ := hrel
    by_cases hlt : k < fs.length
    · obtain ⟨b, off, rfl, hb, hc⟩ := H.out.at (by intro h; rw [h] at hlt; exact absurd hlt (Nat.not_lt_zero _))
      obtain ⟨hc0, hc1⟩ := hc k hlt
      have hsm := HF.out.2 _ (List.getElem_mem hlt)
      have hst := hfe.out
      rw [List.drop_eq_getElem_cons hlt, M.firstErr, M.chk1] at hst
      have HST := Lib.hid hst
      have HG := Lib.hid (G1.out fs[k].1 hsm.1)
      have hsd := hsm.2
      clear hc hst hsm hfe
      generalize fs[k].1 = x at *
      generalize fs[k].2 = d at *
      have hdl := size_mk d
      have hpr : M.path x = 0 ∨ M.path x = 13 := by unfold M.path; split <;> simp
      generalize M.path x = e1 at *
      rcases hpr with he | he
      · subst he
        by_cases hbig : d.length > 2048
        · have HE := Lib.hid (show M.check fs = 15 by
            have hst := HST.out
            simp [hbig] at hst
            unfold M.check
            rw [hst]; rfl)
          go_wp2_with ((with_reducible refine (HG.out _).mono ?_); rintro e w3 ⟨rfl, hw⟩; obtain rfl := hw.symm)
          go_ret
          exact ⟨ret_int HE.out.symm, 0, rfl⟩
        · have HE := Lib.hid (show M.firstErr fs = M.firstErr (fs.drop (k + 1)) by
            have hst := HST.out
            simpa [hbig] using hst)
          go_wp2_with ((with_reducible refine (HG.out _).mono ?_); rintro e w3 ⟨rfl, hw⟩; obtain rfl := hw.symm)
          go_roundw
          case rel => exact ⟨k + 1, by omega, by go_num, trivial, HE⟩
          case measure => simp [intOf]; omega
      · subst he
        have HE := Lib.hid (show M.check fs = 13 by
          have hst := HST.out
          simp at hst
          unfold M.check
          rw [hst]; rfl)
        go_wp2_with ((with_reducible refine (HG.out _).mono ?_); rintro e w3 ⟨rfl, hw⟩; obtain rfl := hw.symm)
        go_ret
        exact ⟨ret_int HE.out.symm, 0, rfl⟩
    · obtain rfl : k = fs.length := by omega
      have hf0 := hfe.out
      rw [List.drop_of_length_le (Nat.le_refl _), M.firstErr] at hf0
      have HF0 := Lib.hid hf0
      clear hf0 hfe
      by_cases hbig : 32 < fs.length
      · go_wp2
        go_ret
        exact ⟨ret_int (check_big HF0.out hbig).symm, 0, rfl⟩
      · go_wp2
        go_loopw [4] (fun i wx => ∃ k nd : Nat, k ≤ fs.length ∧ i = .int .i64 k ∧ wx = wr.drewN nd ∧ Hid (∀ j (hj : j < fs.length), j < k → (∀ (h0 : 0 < j), M.bl (fs[j - 1]'(by omega)).1 fs[j].1 = true) ∧ ∀ q (hq : q < fs.length), M.below fs[j].1 fs[q].1 = false)) (fun i _ => fs.length - (intOf i).toNat)
        case atStart => exact ⟨0, 0, Nat.zero_le _, rfl, rfl, Lib.hid (fun j _ h => absurd h (Nat.not_lt_zero _))⟩
        case round =>
          obtain ⟨k, nd, hk2, rfl, rfl, hall⟩ := hrel
          clear hlt hk
          by_cases hlt : k < fs.length
          · obtain ⟨b, off, rfl, hb, hc⟩ := H.out.at (by intro h; rw [h] at hlt; exact absurd hlt (Nat.not_lt_zero _))
            have HC := Lib.hid (show ∀ n j (hj : j < fs.length), (wr.drewN n).cell? ⟨b, off + j * 2, none⟩ = some (S fs[j].1) from fun n j hj => (hc j hj).1)
            clear hc hb
            have hbad : ((∃ h0 : 0 < k, M.bl (fs[k - 1]'(by omega)).1 fs[k].1 = false) → M.check fs = 16) := fun h => check_no HF0.out (by omega) hlt (Or.inl h)
            have HBAD := Lib.hid hbad
            have HKIN := Lib.hid (show ∀ q (hq : q < fs.length), M.below fs[k].1 fs[q].1 = true → M.check fs = 16 from fun q hq h => check_no HF0.out (by omega) hlt (Or.inr (kin_yes hlt hq h)))
            have HGOOD := Lib.hid (show (∀ (h0 : 0 < k), M.bl (fs[k - 1]'(by omega)).1 fs[k].1 = true) → (∀ q (hq : q < fs.length), M.below fs[k].1 fs[q].1 = false) → (∀ j (hj : j < fs.length), j < k + 1 → (∀ (h0 : 0 < j), M.bl (fs[j - 1]'(by omega)).1 fs[j].1 = true) ∧ ∀ q (hq : q < fs.length), M.below fs[j].1 fs[q].1 = false) from fun h1 h2 j hj hjk => by
              by_cases he : j = k
              · subst he; exact ⟨h1, h2⟩
              · exact hall.out j hj (by omega))
            have hxm := (HF.out.2 fs[k] (List.getElem_mem hlt)).1
            clear hbad
            go_upto_region 13 with (fail)
            go_cut [50] (fun c wx => ∃ (t : Bool) (nd2 : Nat), c = .bool t ∧ wx = wr.drewN nd2 ∧ Hid (t = true → M.check fs = 16) ∧ Hid (t = false → ∀ (h0 : 0 < k), M.bl (fs[k - 1]'(by omega)).1 fs[k].1 = true))
            case first =>
              have g0 := HC.out nd k hlt
              have HT0 := Lib.hid (show k = 0 → ∀ (h0 : 0 < k), M.bl (fs[k - 1]'(by omega)).1 fs[k].1 = true from fun h h0 => absurd h0 (by omega))
              by_cases hk0 : k = 0
              · have hg0 : decide (0 < k) = false := decide_eq_false (by omega)
                have HT := Lib.hid (HT0.out hk0)
                clear hk0
                generalize hwq : wr.drewN nd = wq at *
                have HWQ := Lib.hid hwq
                clear hwq
                go_quiet (fail)
                go_wp2
                go_meet
                case rel => exact ⟨false, _, rfl, by rw [← HWQ.out, drewN_add], Lib.hid (fun h => by cases h), Lib.hid (fun _ => HT.out)⟩
              · have hg0 : decide (0 < k) = true := decide_eq_true (by omega)
                have hw1 : IntKind.i64.wrap ((k : Int) - 1) = (k : Int) - 1 := IntWalk.i64_in _ (by omega)
                have i1 : (1 : Int) ≤ (k : Int) := by omega
                have i2 : (k : Int) - 1 < (fs.length : Int) := by omega
                have i3 : ((k : Int) - 1).toNat = k - 1 := by omega
                have hp0 := HC.out nd (k - 1) (by omega)
                have HK0 := Lib.hid (show 0 < k by omega)
                clear hk0
                generalize hbl : M.bl (fs[k - 1]'(by omega)).1 fs[k].1 = r
                have HBL := Lib.hid hbl
                have hb2 : Op.bytesLess (fs[k - 1]'(by omega)).1 fs[k].1 = r := hbl
                clear hbl
                generalize hwq : wr.drewN nd = wq at *
                have HWQ := Lib.hid hwq
                clear hwq
                cases r with
                | true =>
                  have HT := Lib.hid (show ∀ (h0 : 0 < k), M.bl (fs[k - 1]'(by omega)).1 fs[k].1 = true from fun _ => HBL.out)
                  go_quiet (fail)
                  go_wp2
                  go_meet
                  case rel => exact ⟨false, _, rfl, by rw [← HWQ.out, drewN_add], Lib.hid (fun h => by cases h), Lib.hid (fun _ => HT.out)⟩
                | false =>
                  have HT := Lib.hid (HBAD.out ⟨HK0.out, HBL.out⟩)
                  go_quiet (fail)
                  go_wp2
                  go_meet
                  case rel => exact ⟨true, _, rfl, by rw [← HWQ.out, drewN_add], Lib.hid (fun _ => HT.out), Lib.hid (fun h => by cases h)⟩
            case rest =>
              obtain ⟨t, nd2, rfl, rfl, ht1, ht2⟩ := hcut
              cases t with
              | true =>
                have HT := Lib.hid (ht1.out rfl)
                clear ht1 ht2
                go_wp2
                go_ret
                exact ⟨ret_int HT.out.symm, nd2, rfl⟩
              | false =>
                have HT := Lib.hid (HGOOD.out (ht2.out rfl))
                clear ht1 ht2 HGOOD HBAD
                go_wp2
                go_loopw [5] (fun i wx => ∃ q nd3 : Nat, q ≤ fs.length ∧ i = .int .i64 q ∧ wx = wr.drewN nd3 ∧ Hid (∀ j (hj : j < fs.length), j < q → M.below fs[k].1 fs[j].1 = false)) (fun i _ => fs.length - (intOf i).toNat)
                case atStart => exact ⟨0, nd2, Nat.zero_le _, rfl, rfl, Lib.hid (fun j _ h => absurd h (Nat.not_lt_zero _))⟩
                case round =>
                  obtain ⟨q, nd3, hq, rfl, rfl, hbelow⟩ := hrel
                  by_cases hqlt : q < fs.length
                  · have g0 := HC.out nd3 k hlt
                    have g1 := HC.out nd3 q hqlt
                    have HK := Lib.hid (HKIN.out q hqlt)
                    have HNX := Lib.hid (show M.below fs[k].1 fs[q].1 = false → ∀ j (hj : j < fs.length), j < q + 1 → M.below fs[k].1 fs[j].1 = false from fun h j hj hjq => by
                      by_cases he : j = q
                      · subst he; exact h
                      · exact hbelow.out j hj (by omega))
                    have HB := Lib.hid (G2.out fs[k].1 fs[q].1 hxm (HF.out.2 fs[q] (List.getElem_mem hqlt)).1)
                    clear hbelow
                    generalize M.below fs[k].1 fs[q].1 = r at *
                    generalize hwq : wr.drewN nd3 = wq at *
                    have HWQ := Lib.hid hwq
                    clear hwq
                    cases r with
                    | true =>
                      have HK2 := Lib.hid (HK.out (by first | trivial | rfl))
                      clear HK HNX
                      go_wp2
                      go_quiet (first | (go_at_call 43; with_reducible refine Calls.quiet_of_same (HB.out _)))
                      go_wp2
                      go_ret
                      exact ⟨ret_int HK2.out.symm, _, by rw [← HWQ.out, drewN_add]⟩
                    | false =>
                      have HN2 := Lib.hid (HNX.out (by first | trivial | rfl))
                      clear HK HNX
                      go_wp2
                      go_quiet (first | (go_at_call 43; with_reducible refine Calls.quiet_of_same (HB.out _)))
                      go_wp2
                      go_roundw
                      case rel => exact ⟨q + 1, _, by omega, by go_num, by rw [← HWQ.out, drewN_add], HN2⟩
                      case measure => simp [intOf]; omega
                  · obtain rfl : q = fs.length := by omega
                    have HT2 := Lib.hid (HT.out (fun j hj => hbelow.out j hj hj))
                    clear HT hbelow
                    go_wp2
                    go_roundw
                    case rel => exact ⟨k + 1, nd3, by omega, by go_num, rfl, HT2⟩
                    case measure => simp [intOf]; omega
          · obtain rfl : k = fs.length := by omega
            go_wp2
            go_ret
            exact ⟨ret_int (check_yes HF0.out (by omega) (fun j hj => ⟨(hall.out j hj hj).1, kin_no (fun j hj q hq => (hall.out j hj hj).2 q hq) hj⟩)).symm, nd, rfl⟩
end Go.Proofs.YtcmbmbdjdkldoaaDoor
