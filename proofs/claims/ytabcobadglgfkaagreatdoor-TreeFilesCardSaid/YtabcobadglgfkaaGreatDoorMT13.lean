/- Merged of: TreeRM. -/
import Derived.Test.YtabcobadglgfkaaGreatDoorMT12
/- The document's files of a digest: the walk that calls itself. -/
namespace Go.Proofs.YtabcobadglgfkaaGreatDoor
open Go.RowKit

theorem WSt.old {b B : Nat} {bv : Value} {s : M.St} {w w' : World} {v : Value} (h : WSt b B bv s w v) (k : Old w w') : WSt b B bv s w' v :=
  ⟨h.box.old k, h.row.old k, h.lt, Nat.le_trans h.le k.size, h.few, h.small⟩

set_option maxHeartbeats 8000000 in
set_option maxRecDepth 100000 in
theorem rfiles_step (hp : PressSpec) (b B : Nat) (bv : Value) (l : List (List UInt8)) (hf : Fair l) (hg : Globs b) (k : Nat)
    (ih : ∀ (ahead d : List UInt8) (s : M.St) (w : World), 1001 ≤ k + s.1 → s.1 ≤ 1000 → ahead.length + 60 * k ≤ 60060 → wI b B bv s w → WCx b bv l w →
      Calls Tryz.prog 60 #[pt b, S d, S ahead] w (WPost b B bv (M.goD l k ahead d s) w))
    (ahead d : List UInt8) (s : M.St) (w : World) (hk : 1001 ≤ k + 1 + s.1) (hs : s.1 ≤ 1000) (ha : ahead.length + 60 * (k + 1) ≤ 60060) (hI : wI b B bv s w) (hC : WCx b bv l w) :
    Calls Tryz.prog 60 #[pt b, S d, S ahead] w (WPost b B bv (M.goD l (k + 1) ahead d s) w) := by
  obtain ⟨v, hst⟩ := hI
  have h1 := hst.box.cellN 1 rfl
  have f1 := hst.box.free 1
  obtain ⟨hst1, hv1⟩ := hst.bump
  have hw1 : IntKind.i64.wrap (((s.1 : Nat) : Int) + 1) = ((s.1 : Nat) : Int) + 1 := IntWalk.i64_in _ (by omega)
  have q1 : (w.setCell ⟨b, 1, none⟩ (.int .i64 (((s.1 : Nat) : Int) + 1))).cell? ⟨b, 1, none⟩ = some (.int .i64 (((s.1 : Nat) : Int) + 1)) := hst1.box.cellN 1 (by simp)
  have q0 : (w.setCell ⟨b, 1, none⟩ (.int .i64 (((s.1 : Nat) : Int) + 1))).cell? ⟨b, 0, none⟩ = some bv := hst1.box.cellN 0 rfl
  have hC1 := hC.vis hv1
  obtain ⟨pb, cb, hbv⟩ := hC.sl.len
  rw [List.length_map] at hbv
  unfold M.goD
  by_cases h1000 : s.1 = 1000
  · rw [if_pos h1000]
    have hz : (1000 : Int) < ((s.1 : Nat) : Int) + 1 := by omega
    have HV1 := Lib.hid hv1
    clear ih hst hst1 hC hC1 hv1 h1000
    generalize hw' : w.setCell ⟨b, 1, none⟩ (.int .i64 (((s.1 : Nat) : Int) + 1)) = w1 at *
    go_enter Tryz.func60, Tryz.ntmps60
    go_wp2
    go_ret
    exact ⟨rfl, (fun h => by cases h), HV1.out⟩
  rw [if_neg h1000]
  have hlt : s.1 < 1000 := by omega
  have hz : ¬ (1000 : Int) < ((s.1 : Nat) : Int) + 1 := by omega
  have HF := Lib.hid (rfind_any hp d bv l _ hf hC1.sl)
  have HST1 := Lib.hid hst1
  have HV1 := Lib.hid hv1
  have HC1 := Lib.hid hC1
  have HIH := Lib.hid ih
  have HV := Lib.hid (visit_w b B bv hg)
  clear ih hst hst1 hv1 hC1 hC
  generalize hw' : w.setCell ⟨b, 1, none⟩ (.int .i64 (((s.1 : Nat) : Int) + 1)) = w1 at *
  have HI1 := Lib.hid (show wI b B bv (s.1 + 1, s.2) w1 from ⟨v, HST1.out⟩)
  subst hbv
  cases hx : M.find l d with
  | none =>
    rw [hx] at HF
    clear hx
    go_enter Tryz.func60, Tryz.ntmps60
    go_wp2_with ((with_reducible refine HF.out.mono ?_); rintro e w2 ⟨rfl, o2⟩)
    go_ret
    exact ⟨rfl, (fun h => by cases h), HV1.out.old HV.out HI1.out o2⟩
  | some x =>
    have hxs := find_small hf hx
    rw [hx] at HF
    clear hx
    have HD := Lib.hid (fun w2 => rdecode_any x w2 hxs)
    unfold DecPost at HD
    simp only
    cases hdec : M.decode x with
    | none =>
      rw [hdec] at HD
      go_enter Tryz.func60, Tryz.ntmps60
      go_wp2_with (first
        | ((with_reducible refine HF.out.mono ?_); rintro e w2 ⟨rfl, o2⟩)
        | ((with_reducible refine (HD.out w2).mono ?_); rintro e w3 ⟨u, rfl, hel, hub, o3⟩))
      go_ret
      exact ⟨rfl, (fun h => by cases h), HV1.out.old HV.out HI1.out (o2.trans o3)⟩
    | some es =>
      have hright := (M.decode_some hdec).1
      have hes := decode_len hdec
      have HRT := Lib.hid (right_all hright)
      rw [hdec] at HD
      simp only [Option.getD_some] at HD
      clear hright
      go_enter Tryz.func60, Tryz.ntmps60
      go_wp2_with (first
        | ((with_reducible refine HF.out.mono ?_); rintro e w2 ⟨rfl, o2⟩)
        | ((with_reducible refine (HD.out w2).mono ?_); rintro e w3 ⟨u, rfl, hel, hub, o3⟩; obtain ⟨pu, cu, rfl⟩ := hel.len))
      have HST3 := Lib.hid (HST1.out.old (o2.trans o3))
      have HV3 := Lib.hid (HV1.out.old HV.out HI1.out (o2.trans o3))
      have HC3 := Lib.hid (HC1.out.vis (Vis.of_old HV.out HI1.out (o2.trans o3)))
      have HEL := Lib.hid hel
      have HSE := Lib.hid (fun b hb => Safe.new HV.out (HV.out.old _ _ _ HI1.out o2) o3 (hub b hb).1 (hub b hb).2)
      clear hel hub o2 o3 HF HD h1 f1 q0 q1 hw' hdec HST1 HI1
      go_loopw [11] (fun i wr => ∃ (j : Nat) (s' : M.St), j ≤ es.length ∧ i = .int .i64 j ∧ wI b B (.slice pb l.length cb) s' wr ∧ M.goL l (M.goD l k) ahead es (s.1 + 1, s.2) = M.goL l (M.goD l k) ahead (es.drop j) s' ∧ s.1 + 1 ≤ s'.1 ∧ s'.1 ≤ 1000 ∧ Vis (wFoot b) w3 wr) (fun i _ => es.length - (intOf i).toNat)
      case atStart => exact ⟨0, (s.1 + 1, s.2), Nat.zero_le _, rfl, ⟨v, HST3.out⟩, by simp, Nat.le_refl _, by show s.1 + 1 ≤ 1000; omega, Vis.refl _⟩
      case round =>
        obtain ⟨j, s', hj, rfl, hIr, hgo, hmono, hs', hvis⟩ := hrel
        obtain ⟨v2, hst2⟩ := hIr
        have HS2 := Lib.hid hst2
        have HIR := Lib.hid (show wI b B (.slice pb l.length cb) s' wr from ⟨v2, hst2⟩)
        have HVR := Lib.hid hvis
        have HCR := Lib.hid (HC3.out.vis hvis)
        clear hst2 hvis
        by_cases hlt : j < es.length
        · obtain ⟨be, off, rfl, hb, hc⟩ := (HVR.out.el HEL.out HSE.out).at (by intro h; rw [h] at hlt; exact absurd hlt (Nat.not_lt_zero _))
          obtain ⟨c0, c1, c2⟩ := hc j hlt
          rw [List.drop_eq_getElem_cons hlt, goL_step] at hgo
          obtain ⟨hsn, hsg⟩ := rightE_small (HRT.out _ (List.getElem_mem hlt))
          have HMN := Lib.hid (stepE_mono l (M.goD l k) (goD_mono l k) ahead es[j] s')
          clear hc
          generalize es[j] = x at *
          obtain ⟨n, isd, g⟩ := x
          simp only at c0 c1 c2 hsn hsg
          have hal : ahead.length ≤ 60060 := by omega
          have z1 := size_mk ahead
          have z2 := size_mk n
          have z3 := size_mk (ahead ++ n)
          have z4 : (ahead ++ n).length = ahead.length + n.length := List.length_append
          have a1 := ba_append ahead n
          have z8 : ¬ 9223372036854775807 < ahead.length + n.length := by omega
          have z9 : ¬ 9223372036854775807 < ahead.length + n.length + 1 := by omega
          have HOD := Lib.hid (show Old wr wr.drew from Old.drewN wr 1)
          cases isd with
          | true =>
            have z5 := size_mk (ahead ++ n ++ [47])
            have a2 := ba_append (ahead ++ n) [47]
            have z6 : (ahead ++ n ++ [47]).length = ahead.length + n.length + 1 := by simp; omega
            have hstep : stepE l (M.goD l k) ahead (n, true, g) s' = M.goD l k (ahead ++ n ++ [47]) g s' := rfl
            rw [hstep] at hgo HMN
            have HR := Lib.hid (HIH.out (ahead ++ n ++ [47]) g s' wr.drew (by omega) hs' (by rw [z6]; omega) (HV.out.old _ _ _ HIR.out HOD.out) (HCR.out.vis (Vis.of_old HV.out HIR.out HOD.out)))
            clear hstep
            generalize M.goD l k (ahead ++ n ++ [47]) g s' = X at *
            rw [List.append_assoc] at HR
            obtain ⟨s2, er⟩ := X
            have HGO := Lib.hid hgo
            have HVD := Lib.hid (HVR.out.old HV.out HIR.out HOD.out)
            clear hgo
            by_cases her : er = 0
            · subst her
              go_upto_region 14 with (fail)
              refine wp_region_any (by kernel_rfl) ?_
              change wpAny _ _ _ _ _ _ _ (World.drew _)
              refine wpAny_take (i := 0) (v := ?_) rfl (by kernel_rfl) (by kernel_rfl) (by kernel_rfl) (fun _ _ _ h => h) (Or.inl ⟨by kernel_rfl, ?_⟩) ?_
              rotate_left
              · intro w'; go_simp; try with_reducible rfl
              refine wpAny_take (i := 1) (v := ?_) rfl (by kernel_rfl) (by kernel_rfl) (by kernel_rfl) (fun _ _ _ h => h) (Or.inl ⟨by kernel_rfl, ?_⟩) ?_
              rotate_left
              · intro w'; go_simp; try with_reducible rfl
              refine wpAny_take (i := 2) (v := ?_) rfl (by kernel_rfl) (by kernel_rfl) (by kernel_rfl) (fun _ _ _ h => h) (Or.inl ⟨by kernel_rfl, ?_⟩) ?_
              rotate_left
              · intro w'; go_simp; try with_reducible rfl
              refine wpAny_take (i := 6) (v := ?_) rfl (by kernel_rfl) (by kernel_rfl) (by kernel_rfl) (fun _ _ _ h => h) (Or.inl ⟨by kernel_rfl, ?_⟩) ?_
              rotate_left
              · intro w'; go_simp; try with_reducible rfl
              refine wpAny_take (i := 7) (v := ?_) rfl (by kernel_rfl) (by kernel_rfl) (by kernel_rfl) (fun _ _ _ h => h) (Or.inl ⟨by kernel_rfl, ?_⟩) ?_
              rotate_left
              · intro w'; go_simp; try with_reducible rfl
              refine wpAny_take (i := 8) (v := ?_) rfl (by kernel_rfl) (by kernel_rfl) (by kernel_rfl) (fun _ _ _ h => h) (Or.inl ⟨by kernel_rfl, ?_⟩) ?_
              rotate_left
              · intro w'; go_simp; try with_reducible rfl
              refine wpAny_ready (rs := [3, 9]) (by kernel_rfl) (by simp) ?_
              refine AllReady.cons rfl (fun K hK => ?_) (AllReady.cons rfl (fun K hK => ?_) AllReady.nil)
              · skip
                go_simp
                refine hK _ _ ?_
                clear hK K
                refine wpAny_take (i := 4) (v := ?_) rfl (by kernel_rfl) (by kernel_rfl) (by kernel_rfl) (fun _ _ _ h => h) (Or.inl ⟨by kernel_rfl, ?_⟩) ?_
                rotate_left
                · intro w'; go_simp; try with_reducible rfl
                refine wpAny_ready (rs := [5, 9]) (by kernel_rfl) (by simp) ?_
                refine AllReady.cons rfl (fun K hK => ?_) (AllReady.cons rfl (fun K hK => ?_) AllReady.nil)
                · skip
                  go_simp
                  refine hK _ _ ?_
                  clear hK K
                  refine wpAny_ready (rs := [9]) (by kernel_rfl) (by simp) ?_
                  refine AllReady.cons rfl (fun K hK => ?_) AllReady.nil
                  go_simp
                  refine hK _ _ ?_
                  clear hK K
                  refine wpAny_take (i := 10) (v := ?_) rfl (by kernel_rfl) (by kernel_rfl) (by kernel_rfl) (fun _ _ _ h => h) (Or.inl ⟨by kernel_rfl, ?_⟩) ?_
                  rotate_left
                  · intro w'; go_simp; try with_reducible rfl
                  refine wpAny_ready (rs := [11]) (by kernel_rfl) (by simp) ?_
                  refine AllReady.cons rfl (fun K hK => ?_) AllReady.nil
                  go_simp
                  refine hK _ _ ?_
                  clear hK K
                  refine wpAny_take (i := 12) (v := ?_) rfl (by kernel_rfl) (by kernel_rfl) (by kernel_rfl) (fun _ _ _ h => h) (Or.inl ⟨by kernel_rfl, ?_⟩) ?_
                  rotate_left
                  · intro w'; go_simp; try with_reducible rfl
                  refine wpAny_take (i := 13) (v := ?_) rfl (by kernel_rfl) (by kernel_rfl) (by kernel_rfl) (fun _ _ _ h => h) (Or.inl ⟨by kernel_rfl, ?_⟩) ?_
                  rotate_left
                  · intro w'; go_simp; try with_reducible rfl
                  refine wpAny_ready (rs := [14]) (by kernel_rfl) (by simp) ?_
                  refine AllReady.cons rfl (fun K hK => ?_) AllReady.nil
                  go_simp
                  go_wp2_with ((with_reducible refine HR.out.mono ?_); rintro e w4 ⟨rfl, hI4, hv4⟩)
                  refine wpAny_take (i := 15) (v := ?_) rfl (by kernel_rfl) (by kernel_rfl) (by kernel_rfl) (fun _ _ _ h => h) (Or.inl ⟨by kernel_rfl, ?_⟩) ?_
                  rotate_left
                  · intro w'; go_simp; try with_reducible rfl
                  refine wpAny_done (by kernel_rfl) ?_ _
                  go_simp
                  go_wp2
                  go_roundw
                  case rel => exact ⟨j + 1, s2, by omega, by go_num, (hI4 (by first | trivial | rfl)).1, by rw [HGO.out, if_neg (by simp)], Nat.le_trans hmono HMN.out, (hI4 (by first | trivial | rfl)).2, HVD.out.trans hv4⟩
                  case measure => simp [intOf]; omega
                · skip
                  go_simp
                  refine hK _ _ ?_
                  clear hK K
                  refine wpAny_take (i := 10) (v := ?_) rfl (by kernel_rfl) (by kernel_rfl) (by kernel_rfl) (fun _ _ _ h => h) (Or.inl ⟨by kernel_rfl, ?_⟩) ?_
                  rotate_left
                  · intro w'; go_simp; try with_reducible rfl
                  refine wpAny_ready (rs := [5, 11]) (by kernel_rfl) (by simp) ?_
                  refine AllReady.cons rfl (fun K hK => ?_) (AllReady.cons rfl (fun K hK => ?_) AllReady.nil)
                  · skip
                    go_simp
                    refine hK _ _ ?_
                    clear hK K
                    refine wpAny_ready (rs := [11]) (by kernel_rfl) (by simp) ?_
                    refine AllReady.cons rfl (fun K hK => ?_) AllReady.nil
                    go_simp
                    refine hK _ _ ?_
                    clear hK K
                    refine wpAny_take (i := 12) (v := ?_) rfl (by kernel_rfl) (by kernel_rfl) (by kernel_rfl) (fun _ _ _ h => h) (Or.inl ⟨by kernel_rfl, ?_⟩) ?_
                    rotate_left
                    · intro w'; go_simp; try with_reducible rfl
                    refine wpAny_take (i := 13) (v := ?_) rfl (by kernel_rfl) (by kernel_rfl) (by kernel_rfl) (fun _ _ _ h => h) (Or.inl ⟨by kernel_rfl, ?_⟩) ?_
                    rotate_left
                    · intro w'; go_simp; try with_reducible rfl
                    refine wpAny_ready (rs := [14]) (by kernel_rfl) (by simp) ?_
                    refine AllReady.cons rfl (fun K hK => ?_) AllReady.nil
                    go_simp
                    go_wp2_with ((with_reducible refine HR.out.mono ?_); rintro e w4 ⟨rfl, hI4, hv4⟩)
                    refine wpAny_take (i := 15) (v := ?_) rfl (by kernel_rfl) (by kernel_rfl) (by kernel_rfl) (fun _ _ _ h => h) (Or.inl ⟨by kernel_rfl, ?_⟩) ?_
                    rotate_left
                    · intro w'; go_simp; try with_reducible rfl
                    refine wpAny_done (by kernel_rfl) ?_ _
                    go_simp
                    go_wp2
                    go_roundw
                    case rel => exact ⟨j + 1, s2, by omega, by go_num, (hI4 (by first | trivial | rfl)).1, by rw [HGO.out, if_neg (by simp)], Nat.le_trans hmono HMN.out, (hI4 (by first | trivial | rfl)).2, HVD.out.trans hv4⟩
                    case measure => simp [intOf]; omega
                  · skip
                    go_simp
                    refine hK _ _ ?_
                    clear hK K
                    refine wpAny_take (i := 12) (v := ?_) rfl (by kernel_rfl) (by kernel_rfl) (by kernel_rfl) (fun _ _ _ h => h) (Or.inl ⟨by kernel_rfl, ?_⟩) ?_
                    rotate_left
                    · intro w'; go_simp; try with_reducible rfl
                    refine wpAny_take (i := 13) (v := ?_) rfl (by kernel_rfl) (by kernel_rfl) (by kernel_rfl) (fun _ _ _ h => h) (Or.inl ⟨by kernel_rfl, ?_⟩) ?_
                    rotate_left
                    · intro w'; go_simp; try with_reducible rfl
                    refine wpAny_ready (rs := [5]) (by kernel_rfl) (by simp) ?_
                    refine AllReady.cons rfl (fun K hK => ?_) AllReady.nil
                    go_simp
                    refine hK _ _ ?_
                    clear hK K
                    refine wpAny_ready (rs := [14]) (by kernel_rfl) (by simp) ?_
                    refine AllReady.cons rfl (fun K hK => ?_) AllReady.nil
                    go_simp
                    go_wp2_with ((with_reducible refine HR.out.mono ?_); rintro e w4 ⟨rfl, hI4, hv4⟩)
                    refine wpAny_take (i := 15) (v := ?_) rfl (by kernel_rfl) (by kernel_rfl) (by kernel_rfl) (fun _ _ _ h => h) (Or.inl ⟨by kernel_rfl, ?_⟩) ?_
                    rotate_left
                    · intro w'; go_simp; try with_reducible rfl
                    refine wpAny_done (by kernel_rfl) ?_ _
                    go_simp
                    go_wp2
                    go_roundw
                    case rel => exact ⟨j + 1, s2, by omega, by go_num, (hI4 (by first | trivial | rfl)).1, by rw [HGO.out, if_neg (by simp)], Nat.le_trans hmono HMN.out, (hI4 (by first | trivial | rfl)).2, HVD.out.trans hv4⟩
                    case measure => simp [intOf]; omega
              · skip
                go_simp
                refine hK _ _ ?_
                clear hK K
                refine wpAny_take (i := 10) (v := ?_) rfl (by kernel_rfl) (by kernel_rfl) (by kernel_rfl) (fun _ _ _ h => h) (Or.inl ⟨by kernel_rfl, ?_⟩) ?_
                rotate_left
                · intro w'; go_simp; try with_reducible rfl
                refine wpAny_ready (rs := [3, 11]) (by kernel_rfl) (by simp) ?_
                refine AllReady.cons rfl (fun K hK => ?_) (AllReady.cons rfl (fun K hK => ?_) AllReady.nil)
                · skip
                  go_simp
                  refine hK _ _ ?_
                  clear hK K
                  refine wpAny_take (i := 4) (v := ?_) rfl (by kernel_rfl) (by kernel_rfl) (by kernel_rfl) (fun _ _ _ h => h) (Or.inl ⟨by kernel_rfl, ?_⟩) ?_
                  rotate_left
                  · intro w'; go_simp; try with_reducible rfl
                  refine wpAny_ready (rs := [5, 11]) (by kernel_rfl) (by simp) ?_
                  refine AllReady.cons rfl (fun K hK => ?_) (AllReady.cons rfl (fun K hK => ?_) AllReady.nil)
                  · skip
                    go_simp
                    refine hK _ _ ?_
                    clear hK K
                    refine wpAny_ready (rs := [11]) (by kernel_rfl) (by simp) ?_
                    refine AllReady.cons rfl (fun K hK => ?_) AllReady.nil
                    go_simp
                    refine hK _ _ ?_
                    clear hK K
                    refine wpAny_take (i := 12) (v := ?_) rfl (by kernel_rfl) (by kernel_rfl) (by kernel_rfl) (fun _ _ _ h => h) (Or.inl ⟨by kernel_rfl, ?_⟩) ?_
                    rotate_left
                    · intro w'; go_simp; try with_reducible rfl
                    refine wpAny_take (i := 13) (v := ?_) rfl (by kernel_rfl) (by kernel_rfl) (by kernel_rfl) (fun _ _ _ h => h) (Or.inl ⟨by kernel_rfl, ?_⟩) ?_
                    rotate_left
                    · intro w'; go_simp; try with_reducible rfl
                    refine wpAny_ready (rs := [14]) (by kernel_rfl) (by simp) ?_
                    refine AllReady.cons rfl (fun K hK => ?_) AllReady.nil
                    go_simp
                    go_wp2_with ((with_reducible refine HR.out.mono ?_); rintro e w4 ⟨rfl, hI4, hv4⟩)
                    refine wpAny_take (i := 15) (v := ?_) rfl (by kernel_rfl) (by kernel_rfl) (by kernel_rfl) (fun _ _ _ h => h) (Or.inl ⟨by kernel_rfl, ?_⟩) ?_
                    rotate_left
                    · intro w'; go_simp; try with_reducible rfl
                    refine wpAny_done (by kernel_rfl) ?_ _
                    go_simp
                    go_wp2
                    go_roundw
                    case rel => exact ⟨j + 1, s2, by omega, by go_num, (hI4 (by first | trivial | rfl)).1, by rw [HGO.out, if_neg (by simp)], Nat.le_trans hmono HMN.out, (hI4 (by first | trivial | rfl)).2, HVD.out.trans hv4⟩
                    case measure => simp [intOf]; omega
                  · skip
                    go_simp
                    refine hK _ _ ?_
                    clear hK K
                    refine wpAny_take (i := 12) (v := ?_) rfl (by kernel_rfl) (by kernel_rfl) (by kernel_rfl) (fun _ _ _ h => h) (Or.inl ⟨by kernel_rfl, ?_⟩) ?_
                    rotate_left
                    · intro w'; go_simp; try with_reducible rfl
                    refine wpAny_take (i := 13) (v := ?_) rfl (by kernel_rfl) (by kernel_rfl) (by kernel_rfl) (fun _ _ _ h => h) (Or.inl ⟨by kernel_rfl, ?_⟩) ?_
                    rotate_left
                    · intro w'; go_simp; try with_reducible rfl
                    refine wpAny_ready (rs := [5]) (by kernel_rfl) (by simp) ?_
                    refine AllReady.cons rfl (fun K hK => ?_) AllReady.nil
                    go_simp
                    refine hK _ _ ?_
                    clear hK K
                    refine wpAny_ready (rs := [14]) (by kernel_rfl) (by simp) ?_
                    refine AllReady.cons rfl (fun K hK => ?_) AllReady.nil
                    go_simp
                    go_wp2_with ((with_reducible refine HR.out.mono ?_); rintro e w4 ⟨rfl, hI4, hv4⟩)
                    refine wpAny_take (i := 15) (v := ?_) rfl (by kernel_rfl) (by kernel_rfl) (by kernel_rfl) (fun _ _ _ h => h) (Or.inl ⟨by kernel_rfl, ?_⟩) ?_
                    rotate_left
                    · intro w'; go_simp; try with_reducible rfl
                    refine wpAny_done (by kernel_rfl) ?_ _
                    go_simp
                    go_wp2
                    go_roundw
                    case rel => exact ⟨j + 1, s2, by omega, by go_num, (hI4 (by first | trivial | rfl)).1, by rw [HGO.out, if_neg (by simp)], Nat.le_trans hmono HMN.out, (hI4 (by first | trivial | rfl)).2, HVD.out.trans hv4⟩
                    case measure => simp [intOf]; omega
                · skip
                  go_simp
                  refine hK _ _ ?_
                  clear hK K
                  refine wpAny_take (i := 12) (v := ?_) rfl (by kernel_rfl) (by kernel_rfl) (by kernel_rfl) (fun _ _ _ h => h) (Or.inl ⟨by kernel_rfl, ?_⟩) ?_
                  rotate_left
                  · intro w'; go_simp; try with_reducible rfl
                  refine wpAny_take (i := 13) (v := ?_) rfl (by kernel_rfl) (by kernel_rfl) (by kernel_rfl) (fun _ _ _ h => h) (Or.inl ⟨by kernel_rfl, ?_⟩) ?_
                  rotate_left
                  · intro w'; go_simp; try with_reducible rfl
                  refine wpAny_ready (rs := [3]) (by kernel_rfl) (by simp) ?_
                  refine AllReady.cons rfl (fun K hK => ?_) AllReady.nil
                  go_simp
                  refine hK _ _ ?_
                  clear hK K
                  refine wpAny_take (i := 4) (v := ?_) rfl (by kernel_rfl) (by kernel_rfl) (by kernel_rfl) (fun _ _ _ h => h) (Or.inl ⟨by kernel_rfl, ?_⟩) ?_
                  rotate_left
                  · intro w'; go_simp; try with_reducible rfl
                  refine wpAny_ready (rs := [5]) (by kernel_rfl) (by simp) ?_
                  refine AllReady.cons rfl (fun K hK => ?_) AllReady.nil
                  go_simp
                  refine hK _ _ ?_
                  clear hK K
                  refine wpAny_ready (rs := [14]) (by kernel_rfl) (by simp) ?_
                  refine AllReady.cons rfl (fun K hK => ?_) AllReady.nil
                  go_simp
                  go_wp2_with ((with_reducible refine HR.out.mono ?_); rintro e w4 ⟨rfl, hI4, hv4⟩)
                  refine wpAny_take (i := 15) (v := ?_) rfl (by kernel_rfl) (by kernel_rfl) (by kernel_rfl) (fun _ _ _ h => h) (Or.inl ⟨by kernel_rfl, ?_⟩) ?_
                  rotate_left
                  · intro w'; go_simp; try with_reducible rfl
                  refine wpAny_done (by kernel_rfl) ?_ _
                  go_simp
                  go_wp2
                  go_roundw
                  case rel => exact ⟨j + 1, s2, by omega, by go_num, (hI4 (by first | trivial | rfl)).1, by rw [HGO.out, if_neg (by simp)], Nat.le_trans hmono HMN.out, (hI4 (by first | trivial | rfl)).2, HVD.out.trans hv4⟩
                  case measure => simp [intOf]; omega
            · go_upto_region 14 with (fail)
              refine wp_region_any (by kernel_rfl) ?_
              change wpAny _ _ _ _ _ _ _ (World.drew _)
              refine wpAny_take (i := 0) (v := ?_) rfl (by kernel_rfl) (by kernel_rfl) (by kernel_rfl) (fun _ _ _ h => h) (Or.inl ⟨by kernel_rfl, ?_⟩) ?_
              rotate_left
              · intro w'; go_simp; try with_reducible rfl
              refine wpAny_take (i := 1) (v := ?_) rfl (by kernel_rfl) (by kernel_rfl) (by kernel_rfl) (fun _ _ _ h => h) (Or.inl ⟨by kernel_rfl, ?_⟩) ?_
              rotate_left
              · intro w'; go_simp; try with_reducible rfl
              refine wpAny_take (i := 2) (v := ?_) rfl (by kernel_rfl) (by kernel_rfl) (by kernel_rfl) (fun _ _ _ h => h) (Or.inl ⟨by kernel_rfl, ?_⟩) ?_
              rotate_left
              · intro w'; go_simp; try with_reducible rfl
              refine wpAny_take (i := 6) (v := ?_) rfl (by kernel_rfl) (by kernel_rfl) (by kernel_rfl) (fun _ _ _ h => h) (Or.inl ⟨by kernel_rfl, ?_⟩) ?_
              rotate_left
              · intro w'; go_simp; try with_reducible rfl
              refine wpAny_take (i := 7) (v := ?_) rfl (by kernel_rfl) (by kernel_rfl) (by kernel_rfl) (fun _ _ _ h => h) (Or.inl ⟨by kernel_rfl, ?_⟩) ?_
              rotate_left
              · intro w'; go_simp; try with_reducible rfl
              refine wpAny_take (i := 8) (v := ?_) rfl (by kernel_rfl) (by kernel_rfl) (by kernel_rfl) (fun _ _ _ h => h) (Or.inl ⟨by kernel_rfl, ?_⟩) ?_
              rotate_left
              · intro w'; go_simp; try with_reducible rfl
              refine wpAny_ready (rs := [3, 9]) (by kernel_rfl) (by simp) ?_
              refine AllReady.cons rfl (fun K hK => ?_) (AllReady.cons rfl (fun K hK => ?_) AllReady.nil)
              · skip
                go_simp
                refine hK _ _ ?_
                clear hK K
                refine wpAny_take (i := 4) (v := ?_) rfl (by kernel_rfl) (by kernel_rfl) (by kernel_rfl) (fun _ _ _ h => h) (Or.inl ⟨by kernel_rfl, ?_⟩) ?_
                rotate_left
                · intro w'; go_simp; try with_reducible rfl
                refine wpAny_ready (rs := [5, 9]) (by kernel_rfl) (by simp) ?_
                refine AllReady.cons rfl (fun K hK => ?_) (AllReady.cons rfl (fun K hK => ?_) AllReady.nil)
                · skip
                  go_simp
                  refine hK _ _ ?_
                  clear hK K
                  refine wpAny_ready (rs := [9]) (by kernel_rfl) (by simp) ?_
                  refine AllReady.cons rfl (fun K hK => ?_) AllReady.nil
                  go_simp
                  refine hK _ _ ?_
                  clear hK K
                  refine wpAny_take (i := 10) (v := ?_) rfl (by kernel_rfl) (by kernel_rfl) (by kernel_rfl) (fun _ _ _ h => h) (Or.inl ⟨by kernel_rfl, ?_⟩) ?_
                  rotate_left
                  · intro w'; go_simp; try with_reducible rfl
                  refine wpAny_ready (rs := [11]) (by kernel_rfl) (by simp) ?_
                  refine AllReady.cons rfl (fun K hK => ?_) AllReady.nil
                  go_simp
                  refine hK _ _ ?_
                  clear hK K
                  refine wpAny_take (i := 12) (v := ?_) rfl (by kernel_rfl) (by kernel_rfl) (by kernel_rfl) (fun _ _ _ h => h) (Or.inl ⟨by kernel_rfl, ?_⟩) ?_
                  rotate_left
                  · intro w'; go_simp; try with_reducible rfl
                  refine wpAny_take (i := 13) (v := ?_) rfl (by kernel_rfl) (by kernel_rfl) (by kernel_rfl) (fun _ _ _ h => h) (Or.inl ⟨by kernel_rfl, ?_⟩) ?_
                  rotate_left
                  · intro w'; go_simp; try with_reducible rfl
                  refine wpAny_ready (rs := [14]) (by kernel_rfl) (by simp) ?_
                  refine AllReady.cons rfl (fun K hK => ?_) AllReady.nil
                  go_simp
                  go_wp2_with ((with_reducible refine HR.out.mono ?_); rintro e w4 ⟨rfl, hI4, hv4⟩)
                  refine wpAny_take (i := 15) (v := ?_) rfl (by kernel_rfl) (by kernel_rfl) (by kernel_rfl) (fun _ _ _ h => h) (Or.inl ⟨by kernel_rfl, ?_⟩) ?_
                  rotate_left
                  · intro w'; go_simp; try with_reducible rfl
                  refine wpAny_done (by kernel_rfl) ?_ _
                  go_simp
                  go_wp2
                  go_ret
                  rw [HGO.out, if_pos (by exact her)]
                  exact ⟨rfl, (fun h => absurd h her), HV3.out.trans (HVD.out.trans hv4)⟩
                · skip
                  go_simp
                  refine hK _ _ ?_
                  clear hK K
                  refine wpAny_take (i := 10) (v := ?_) rfl (by kernel_rfl) (by kernel_rfl) (by kernel_rfl) (fun _ _ _ h => h) (Or.inl ⟨by kernel_rfl, ?_⟩) ?_
                  rotate_left
                  · intro w'; go_simp; try with_reducible rfl
                  refine wpAny_ready (rs := [5, 11]) (by kernel_rfl) (by simp) ?_
                  refine AllReady.cons rfl (fun K hK => ?_) (AllReady.cons rfl (fun K hK => ?_) AllReady.nil)
                  · skip
                    go_simp
                    refine hK _ _ ?_
                    clear hK K
                    refine wpAny_ready (rs := [11]) (by kernel_rfl) (by simp) ?_
                    refine AllReady.cons rfl (fun K hK => ?_) AllReady.nil
                    go_simp
                    refine hK _ _ ?_
                    clear hK K
                    refine wpAny_take (i := 12) (v := ?_) rfl (by kernel_rfl) (by kernel_rfl) (by kernel_rfl) (fun _ _ _ h => h) (Or.inl ⟨by kernel_rfl, ?_⟩) ?_
                    rotate_left
                    · intro w'; go_simp; try with_reducible rfl
                    refine wpAny_take (i := 13) (v := ?_) rfl (by kernel_rfl) (by kernel_rfl) (by kernel_rfl) (fun _ _ _ h => h) (Or.inl ⟨by kernel_rfl, ?_⟩) ?_
                    rotate_left
                    · intro w'; go_simp; try with_reducible rfl
                    refine wpAny_ready (rs := [14]) (by kernel_rfl) (by simp) ?_
                    refine AllReady.cons rfl (fun K hK => ?_) AllReady.nil
                    go_simp
                    go_wp2_with ((with_reducible refine HR.out.mono ?_); rintro e w4 ⟨rfl, hI4, hv4⟩)
                    refine wpAny_take (i := 15) (v := ?_) rfl (by kernel_rfl) (by kernel_rfl) (by kernel_rfl) (fun _ _ _ h => h) (Or.inl ⟨by kernel_rfl, ?_⟩) ?_
                    rotate_left
                    · intro w'; go_simp; try with_reducible rfl
                    refine wpAny_done (by kernel_rfl) ?_ _
                    go_simp
                    go_wp2
                    go_ret
                    rw [HGO.out, if_pos (by exact her)]
                    exact ⟨rfl, (fun h => absurd h her), HV3.out.trans (HVD.out.trans hv4)⟩
                  · skip
                    go_simp
                    refine hK _ _ ?_
                    clear hK K
                    refine wpAny_take (i := 12) (v := ?_) rfl (by kernel_rfl) (by kernel_rfl) (by kernel_rfl) (fun _ _ _ h => h) (Or.inl ⟨by kernel_rfl, ?_⟩) ?_
                    rotate_left
                    · intro w'; go_simp; try with_reducible rfl
                    refine wpAny_take (i := 13) (v := ?_) rfl (by kernel_rfl) (by kernel_rfl) (by kernel_rfl) (fun _ _ _ h => h) (Or.inl ⟨by kernel_rfl, ?_⟩) ?_
                    rotate_left
                    · intro w'; go_simp; try with_reducible rfl
                    refine wpAny_ready (rs := [5]) (by kernel_rfl) (by simp) ?_
                    refine AllReady.cons rfl (fun K hK => ?_) AllReady.nil
                    go_simp
                    refine hK _ _ ?_
                    clear hK K
                    refine wpAny_ready (rs := [14]) (by kernel_rfl) (by simp) ?_
                    refine AllReady.cons rfl (fun K hK => ?_) AllReady.nil
                    go_simp
                    go_wp2_with ((with_reducible refine HR.out.mono ?_); rintro e w4 ⟨rfl, hI4, hv4⟩)
                    refine wpAny_take (i := 15) (v := ?_) rfl (by kernel_rfl) (by kernel_rfl) (by kernel_rfl) (fun _ _ _ h => h) (Or.inl ⟨by kernel_rfl, ?_⟩) ?_
                    rotate_left
                    · intro w'; go_simp; try with_reducible rfl
                    refine wpAny_done (by kernel_rfl) ?_ _
                    go_simp
                    go_wp2
                    go_ret
                    rw [HGO.out, if_pos (by exact her)]
                    exact ⟨rfl, (fun h => absurd h her), HV3.out.trans (HVD.out.trans hv4)⟩
              · skip
                go_simp
                refine hK _ _ ?_
                clear hK K
                refine wpAny_take (i := 10) (v := ?_) rfl (by kernel_rfl) (by kernel_rfl) (by kernel_rfl) (fun _ _ _ h => h) (Or.inl ⟨by kernel_rfl, ?_⟩) ?_
                rotate_left
                · intro w'; go_simp; try with_reducible rfl
                refine wpAny_ready (rs := [3, 11]) (by kernel_rfl) (by simp) ?_
                refine AllReady.cons rfl (fun K hK => ?_) (AllReady.cons rfl (fun K hK => ?_) AllReady.nil)
                · skip
                  go_simp
                  refine hK _ _ ?_
                  clear hK K
                  refine wpAny_take (i := 4) (v := ?_) rfl (by kernel_rfl) (by kernel_rfl) (by kernel_rfl) (fun _ _ _ h => h) (Or.inl ⟨by kernel_rfl, ?_⟩) ?_
                  rotate_left
                  · intro w'; go_simp; try with_reducible rfl
                  refine wpAny_ready (rs := [5, 11]) (by kernel_rfl) (by simp) ?_
                  refine AllReady.cons rfl (fun K hK => ?_) (AllReady.cons rfl (fun K hK => ?_) AllReady.nil)
                  · skip
                    go_simp
                    refine hK _ _ ?_
                    clear hK K
                    refine wpAny_ready (rs := [11]) (by kernel_rfl) (by simp) ?_
                    refine AllReady.cons rfl (fun K hK => ?_) AllReady.nil
                    go_simp
                    refine hK _ _ ?_
                    clear hK K
                    refine wpAny_take (i := 12) (v := ?_) rfl (by kernel_rfl) (by kernel_rfl) (by kernel_rfl) (fun _ _ _ h => h) (Or.inl ⟨by kernel_rfl, ?_⟩) ?_
                    rotate_left
                    · intro w'; go_simp; try with_reducible rfl
                    refine wpAny_take (i := 13) (v := ?_) rfl (by kernel_rfl) (by kernel_rfl) (by kernel_rfl) (fun _ _ _ h => h) (Or.inl ⟨by kernel_rfl, ?_⟩) ?_
                    rotate_left
                    · intro w'; go_simp; try with_reducible rfl
                    refine wpAny_ready (rs := [14]) (by kernel_rfl) (by simp) ?_
                    refine AllReady.cons rfl (fun K hK => ?_) AllReady.nil
                    go_simp
                    go_wp2_with ((with_reducible refine HR.out.mono ?_); rintro e w4 ⟨rfl, hI4, hv4⟩)
                    refine wpAny_take (i := 15) (v := ?_) rfl (by kernel_rfl) (by kernel_rfl) (by kernel_rfl) (fun _ _ _ h => h) (Or.inl ⟨by kernel_rfl, ?_⟩) ?_
                    rotate_left
                    · intro w'; go_simp; try with_reducible rfl
                    refine wpAny_done (by kernel_rfl) ?_ _
                    go_simp
                    go_wp2
                    go_ret
                    rw [HGO.out, if_pos (by exact her)]
                    exact ⟨rfl, (fun h => absurd h her), HV3.out.trans (HVD.out.trans hv4)⟩
                  · skip
                    go_simp
                    refine hK _ _ ?_
                    clear hK K
                    refine wpAny_take (i := 12) (v := ?_) rfl (by kernel_rfl) (by kernel_rfl) (by kernel_rfl) (fun _ _ _ h => h) (Or.inl ⟨by kernel_rfl, ?_⟩) ?_
                    rotate_left
                    · intro w'; go_simp; try with_reducible rfl
                    refine wpAny_take (i := 13) (v := ?_) rfl (by kernel_rfl) (by kernel_rfl) (by kernel_rfl) (fun _ _ _ h => h) (Or.inl ⟨by kernel_rfl, ?_⟩) ?_
                    rotate_left
                    · intro w'; go_simp; try with_reducible rfl
                    refine wpAny_ready (rs := [5]) (by kernel_rfl) (by simp) ?_
                    refine AllReady.cons rfl (fun K hK => ?_) AllReady.nil
                    go_simp
                    refine hK _ _ ?_
                    clear hK K
                    refine wpAny_ready (rs := [14]) (by kernel_rfl) (by simp) ?_
                    refine AllReady.cons rfl (fun K hK => ?_) AllReady.nil
                    go_simp
                    go_wp2_with ((with_reducible refine HR.out.mono ?_); rintro e w4 ⟨rfl, hI4, hv4⟩)
                    refine wpAny_take (i := 15) (v := ?_) rfl (by kernel_rfl) (by kernel_rfl) (by kernel_rfl) (fun _ _ _ h => h) (Or.inl ⟨by kernel_rfl, ?_⟩) ?_
                    rotate_left
                    · intro w'; go_simp; try with_reducible rfl
                    refine wpAny_done (by kernel_rfl) ?_ _
                    go_simp
                    go_wp2
                    go_ret
                    rw [HGO.out, if_pos (by exact her)]
                    exact ⟨rfl, (fun h => absurd h her), HV3.out.trans (HVD.out.trans hv4)⟩
                · skip
                  go_simp
                  refine hK _ _ ?_
                  clear hK K
                  refine wpAny_take (i := 12) (v := ?_) rfl (by kernel_rfl) (by kernel_rfl) (by kernel_rfl) (fun _ _ _ h => h) (Or.inl ⟨by kernel_rfl, ?_⟩) ?_
                  rotate_left
                  · intro w'; go_simp; try with_reducible rfl
                  refine wpAny_take (i := 13) (v := ?_) rfl (by kernel_rfl) (by kernel_rfl) (by kernel_rfl) (fun _ _ _ h => h) (Or.inl ⟨by kernel_rfl, ?_⟩) ?_
                  rotate_left
                  · intro w'; go_simp; try with_reducible rfl
                  refine wpAny_ready (rs := [3]) (by kernel_rfl) (by simp) ?_
                  refine AllReady.cons rfl (fun K hK => ?_) AllReady.nil
                  go_simp
                  refine hK _ _ ?_
                  clear hK K
                  refine wpAny_take (i := 4) (v := ?_) rfl (by kernel_rfl) (by kernel_rfl) (by kernel_rfl) (fun _ _ _ h => h) (Or.inl ⟨by kernel_rfl, ?_⟩) ?_
                  rotate_left
                  · intro w'; go_simp; try with_reducible rfl
                  refine wpAny_ready (rs := [5]) (by kernel_rfl) (by simp) ?_
                  refine AllReady.cons rfl (fun K hK => ?_) AllReady.nil
                  go_simp
                  refine hK _ _ ?_
                  clear hK K
                  refine wpAny_ready (rs := [14]) (by kernel_rfl) (by simp) ?_
                  refine AllReady.cons rfl (fun K hK => ?_) AllReady.nil
                  go_simp
                  go_wp2_with ((with_reducible refine HR.out.mono ?_); rintro e w4 ⟨rfl, hI4, hv4⟩)
                  refine wpAny_take (i := 15) (v := ?_) rfl (by kernel_rfl) (by kernel_rfl) (by kernel_rfl) (fun _ _ _ h => h) (Or.inl ⟨by kernel_rfl, ?_⟩) ?_
                  rotate_left
                  · intro w'; go_simp; try with_reducible rfl
                  refine wpAny_done (by kernel_rfl) ?_ _
                  go_simp
                  go_wp2
                  go_ret
                  rw [HGO.out, if_pos (by exact her)]
                  exact ⟨rfl, (fun h => absurd h her), HV3.out.trans (HVD.out.trans hv4)⟩
          | false =>
            have hstep : stepE l (M.goD l k) ahead (n, false, g) s' = M.addFile l (ahead ++ n) g s' := rfl
            rw [hstep] at hgo HMN
            have HFB := Lib.hid (rfind_any hp g (.slice pb l.length cb) l wr.drew hf (HCR.out.vis (Vis.of_old HV.out HIR.out HOD.out)).sl)
            have q0 := HS2.out.box.cellN 0 rfl
            have hbl := HS2.out.box.lt
            clear hstep
            go_upto_region 17 with (fail)
            go_cut [12, 13] (fun dv hv wx => dv = S ((M.find l g).getD []) ∧ hv = .bool (M.find l g).isSome ∧ Old wr wx)
            case first =>
              generalize (M.find l g).getD [] = fd at *
              generalize (M.find l g).isSome = fb at *
              refine wp_region_any (by kernel_rfl) ?_
              change wpAny _ _ _ _ _ _ _ (World.drew _)
              refine wpAny_take (i := 0) (v := ?_) rfl (by kernel_rfl) (by kernel_rfl) (by kernel_rfl) (fun _ _ _ h => h) (Or.inl ⟨by kernel_rfl, ?_⟩) ?_
              rotate_left
              · intro w'; go_simp; try with_reducible rfl
              refine wpAny_take (i := 1) (v := ?_) rfl (by kernel_rfl) (by kernel_rfl) (by kernel_rfl) (fun _ _ _ h => h) (Or.inl ⟨by kernel_rfl, ?_⟩) ?_
              rotate_left
              · intro w'; go_simp; try with_reducible rfl
              refine wpAny_take (i := 5) (v := ?_) rfl (by kernel_rfl) (by kernel_rfl) (by kernel_rfl) (fun _ _ _ h => h) (Or.inl ⟨by kernel_rfl, ?_⟩) ?_
              rotate_left
              · intro w'; go_simp; try with_reducible rfl
              refine wpAny_take (i := 6) (v := ?_) rfl (by kernel_rfl) (by kernel_rfl) (by kernel_rfl) (fun _ _ _ h => h) (Or.inl ⟨by kernel_rfl, ?_⟩) ?_
              rotate_left
              · intro w'; go_simp; try with_reducible rfl
              refine wpAny_take (i := 7) (v := ?_) rfl (by kernel_rfl) (by kernel_rfl) (by kernel_rfl) (fun _ _ _ h => h) (Or.inl ⟨by kernel_rfl, ?_⟩) ?_
              rotate_left
              · intro w'; go_simp; try with_reducible rfl
              refine wpAny_ready (rs := [2, 8]) (by kernel_rfl) (by simp) ?_
              refine AllReady.cons rfl (fun K hK => ?_) (AllReady.cons rfl (fun K hK => ?_) AllReady.nil)
              · skip
                go_simp
                refine hK _ _ ?_
                clear hK K
                refine wpAny_take (i := 3) (v := ?_) rfl (by kernel_rfl) (by kernel_rfl) (by kernel_rfl) (fun _ _ _ h => h) (Or.inl ⟨by kernel_rfl, ?_⟩) ?_
                rotate_left
                · intro w'; go_simp; try with_reducible rfl
                refine wpAny_ready (rs := [4, 8]) (by kernel_rfl) (by simp) ?_
                refine AllReady.cons rfl (fun K hK => ?_) (AllReady.cons rfl (fun K hK => ?_) AllReady.nil)
                · skip
                  go_simp
                  refine hK _ _ ?_
                  clear hK K
                  refine wpAny_ready (rs := [8]) (by kernel_rfl) (by simp) ?_
                  refine AllReady.cons rfl (fun K hK => ?_) AllReady.nil
                  go_simp
                  refine hK _ _ ?_
                  clear hK K
                  refine wpAny_ready (rs := [9]) (by kernel_rfl) (by simp) ?_
                  refine AllReady.cons rfl (fun K hK => ?_) AllReady.nil
                  go_simp
                  go_wp2_with ((with_reducible refine HFB.out.mono ?_); rintro e w4 ⟨rfl, o4⟩)
                  refine wpAny_take (i := 10) (v := ?_) rfl (by kernel_rfl) (by kernel_rfl) (by kernel_rfl) (fun _ _ _ h => h) (Or.inl ⟨by kernel_rfl, ?_⟩) ?_
                  rotate_left
                  · intro w'; go_simp; try with_reducible rfl
                  refine wpAny_take (i := 11) (v := ?_) rfl (by kernel_rfl) (by kernel_rfl) (by kernel_rfl) (fun _ _ _ h => h) (Or.inl ⟨by kernel_rfl, ?_⟩) ?_
                  rotate_left
                  · intro w'; go_simp; try with_reducible rfl
                  refine wpAny_take (i := 12) (v := ?_) rfl (by kernel_rfl) (by kernel_rfl) (by kernel_rfl) (fun _ _ _ h => h) (Or.inl ⟨by kernel_rfl, ?_⟩) ?_
                  rotate_left
                  · intro w'; go_simp; try with_reducible rfl
                  refine wpAny_take (i := 13) (v := ?_) rfl (by kernel_rfl) (by kernel_rfl) (by kernel_rfl) (fun _ _ _ h => h) (Or.inl ⟨by kernel_rfl, ?_⟩) ?_
                  rotate_left
                  · intro w'; go_simp; try with_reducible rfl
                  refine wpAny_take (i := 14) (v := ?_) rfl (by kernel_rfl) (by kernel_rfl) (by kernel_rfl) (fun _ _ _ h => h) (Or.inl ⟨by kernel_rfl, ?_⟩) ?_
                  rotate_left
                  · intro w'; go_simp; try with_reducible rfl
                  refine wpAny_done (by kernel_rfl) ?_ _
                  go_simp
                  go_wp2
                  go_meet
                  case rel => exact ⟨rfl, rfl, HOD.out.trans o4⟩
                · skip
                  go_simp
                  refine hK _ _ ?_
                  clear hK K
                  refine wpAny_ready (rs := [4]) (by kernel_rfl) (by simp) ?_
                  refine AllReady.cons rfl (fun K hK => ?_) AllReady.nil
                  go_simp
                  refine hK _ _ ?_
                  clear hK K
                  refine wpAny_ready (rs := [9]) (by kernel_rfl) (by simp) ?_
                  refine AllReady.cons rfl (fun K hK => ?_) AllReady.nil
                  go_simp
                  go_wp2_with ((with_reducible refine HFB.out.mono ?_); rintro e w4 ⟨rfl, o4⟩)
                  refine wpAny_take (i := 10) (v := ?_) rfl (by kernel_rfl) (by kernel_rfl) (by kernel_rfl) (fun _ _ _ h => h) (Or.inl ⟨by kernel_rfl, ?_⟩) ?_
                  rotate_left
                  · intro w'; go_simp; try with_reducible rfl
                  refine wpAny_take (i := 11) (v := ?_) rfl (by kernel_rfl) (by kernel_rfl) (by kernel_rfl) (fun _ _ _ h => h) (Or.inl ⟨by kernel_rfl, ?_⟩) ?_
                  rotate_left
                  · intro w'; go_simp; try with_reducible rfl
                  refine wpAny_take (i := 12) (v := ?_) rfl (by kernel_rfl) (by kernel_rfl) (by kernel_rfl) (fun _ _ _ h => h) (Or.inl ⟨by kernel_rfl, ?_⟩) ?_
                  rotate_left
                  · intro w'; go_simp; try with_reducible rfl
                  refine wpAny_take (i := 13) (v := ?_) rfl (by kernel_rfl) (by kernel_rfl) (by kernel_rfl) (fun _ _ _ h => h) (Or.inl ⟨by kernel_rfl, ?_⟩) ?_
                  rotate_left
                  · intro w'; go_simp; try with_reducible rfl
                  refine wpAny_take (i := 14) (v := ?_) rfl (by kernel_rfl) (by kernel_rfl) (by kernel_rfl) (fun _ _ _ h => h) (Or.inl ⟨by kernel_rfl, ?_⟩) ?_
                  rotate_left
                  · intro w'; go_simp; try with_reducible rfl
                  refine wpAny_done (by kernel_rfl) ?_ _
                  go_simp
                  go_wp2
                  go_meet
                  case rel => exact ⟨rfl, rfl, HOD.out.trans o4⟩
              · skip
                go_simp
                refine hK _ _ ?_
                clear hK K
                refine wpAny_ready (rs := [2]) (by kernel_rfl) (by simp) ?_
                refine AllReady.cons rfl (fun K hK => ?_) AllReady.nil
                go_simp
                refine hK _ _ ?_
                clear hK K
                refine wpAny_take (i := 3) (v := ?_) rfl (by kernel_rfl) (by kernel_rfl) (by kernel_rfl) (fun _ _ _ h => h) (Or.inl ⟨by kernel_rfl, ?_⟩) ?_
                rotate_left
                · intro w'; go_simp; try with_reducible rfl
                refine wpAny_ready (rs := [4]) (by kernel_rfl) (by simp) ?_
                refine AllReady.cons rfl (fun K hK => ?_) AllReady.nil
                go_simp
                refine hK _ _ ?_
                clear hK K
                refine wpAny_ready (rs := [9]) (by kernel_rfl) (by simp) ?_
                refine AllReady.cons rfl (fun K hK => ?_) AllReady.nil
                go_simp
                go_wp2_with ((with_reducible refine HFB.out.mono ?_); rintro e w4 ⟨rfl, o4⟩)
                refine wpAny_take (i := 10) (v := ?_) rfl (by kernel_rfl) (by kernel_rfl) (by kernel_rfl) (fun _ _ _ h => h) (Or.inl ⟨by kernel_rfl, ?_⟩) ?_
                rotate_left
                · intro w'; go_simp; try with_reducible rfl
                refine wpAny_take (i := 11) (v := ?_) rfl (by kernel_rfl) (by kernel_rfl) (by kernel_rfl) (fun _ _ _ h => h) (Or.inl ⟨by kernel_rfl, ?_⟩) ?_
                rotate_left
                · intro w'; go_simp; try with_reducible rfl
                refine wpAny_take (i := 12) (v := ?_) rfl (by kernel_rfl) (by kernel_rfl) (by kernel_rfl) (fun _ _ _ h => h) (Or.inl ⟨by kernel_rfl, ?_⟩) ?_
                rotate_left
                · intro w'; go_simp; try with_reducible rfl
                refine wpAny_take (i := 13) (v := ?_) rfl (by kernel_rfl) (by kernel_rfl) (by kernel_rfl) (fun _ _ _ h => h) (Or.inl ⟨by kernel_rfl, ?_⟩) ?_
                rotate_left
                · intro w'; go_simp; try with_reducible rfl
                refine wpAny_take (i := 14) (v := ?_) rfl (by kernel_rfl) (by kernel_rfl) (by kernel_rfl) (fun _ _ _ h => h) (Or.inl ⟨by kernel_rfl, ?_⟩) ?_
                rotate_left
                · intro w'; go_simp; try with_reducible rfl
                refine wpAny_done (by kernel_rfl) ?_ _
                go_simp
                go_wp2
                go_meet
                case rel => exact ⟨rfl, rfl, HOD.out.trans o4⟩
            case rest =>
              obtain ⟨rfl, rfl, o4⟩ := hcut
              have HS4 := Lib.hid (HS2.out.old o4)
              have HV4 := Lib.hid (HVR.out.old HV.out HIR.out o4)
              have d0 := (o4.cell (p := ⟨be, off + j * 3, none⟩) hb).trans c0
              have hbe : be < wc.heap.size := Nat.lt_of_lt_of_le hb o4.size
              have p2 := HS4.out.box.cellN 2 rfl
              have hbc := HS4.out.box.lt
              obtain ⟨pv, cv, rfl⟩ := HS4.out.row.fl.len
              have hfew := HS4.out.few
              clear o4 HFB q0 hbl c0 c1 c2 HS2
              unfold M.addFile at hgo
              cases hx : M.find l g with
              | none =>
                rw [hx] at hgo
                simp only [ne_eq, Int.reduceEq, not_false_eq_true, if_true] at hgo
                have HGO := Lib.hid hgo
                clear hgo hx
                go_wp2
                go_ret
                rw [HGO.out]
                exact ⟨rfl, (fun h => by cases h), HV3.out.trans HV4.out⟩
              | some x =>
                have hxs := find_small hf hx
                rw [hx] at hgo
                simp only at hgo
                clear hx
                by_cases h32 : s'.2.length = 32
                · rw [if_pos h32] at hgo
                  simp only [ne_eq, Int.reduceEq, not_false_eq_true, if_true] at hgo
                  have HGO := Lib.hid hgo
                  have h32' : (32 : Int) ≤ (s'.2.length : Int) := by omega
                  clear hgo
                  go_wp2
                  go_ret
                  rw [HGO.out]
                  exact ⟨rfl, (fun h => by cases h), HV3.out.trans HV4.out⟩
                · rw [if_neg h32] at hgo
                  simp only [ne_eq, not_true_eq_false, if_false] at hgo
                  have HGO := Lib.hid hgo
                  have h32' : ¬ (32 : Int) ≤ (s'.2.length : Int) := by omega
                  clear hgo
                  obtain ⟨v', w5, hrun, ⟨e2, e3⟩, ⟨qv, nv, cv', rfl⟩, hI5, hV5⟩ := append_file (ahead ++ n) x HS4.out (show Old wc wc.drew from Old.drewN wc 1) (by rw [z4]; omega) hxs (by omega)
                  have HRUN := Lib.hid hrun
                  have HI5 := Lib.hid hI5
                  have HV5 := Lib.hid (HV4.out.trans hV5)
                  clear hrun hI5 hV5 hxs
                  simp only [Option.getD_some, Option.isSome_some]
                  go_upto_region 22 with (fail)
                  refine wp_region_any (by kernel_rfl) ?_
                  change wpAny _ _ _ _ _ _ _ (World.drew _)
                  refine wpAny_take (i := 0) (v := ?_) rfl (by kernel_rfl) (by kernel_rfl) (by kernel_rfl) (fun _ _ _ h => h) (Or.inl ⟨by kernel_rfl, ?_⟩) ?_
                  rotate_left
                  · intro w'; go_simp; try with_reducible rfl
                  refine wpAny_take (i := 1) (v := ?_) rfl (by kernel_rfl) (by kernel_rfl) (by kernel_rfl) (fun _ _ _ h => h) (Or.inl ⟨by kernel_rfl, ?_⟩) ?_
                  rotate_left
                  · intro w'; go_simp; try with_reducible rfl
                  refine wpAny_take (i := 2) (v := ?_) rfl (by kernel_rfl) (by kernel_rfl) (by kernel_rfl) (fun _ _ _ h => h) (Or.inl ⟨by kernel_rfl, ?_⟩) ?_
                  rotate_left
                  · intro w'; go_simp; try with_reducible rfl
                  refine wpAny_take (i := 3) (v := ?_) rfl (by kernel_rfl) (by kernel_rfl) (by kernel_rfl) (fun _ _ _ h => h) (Or.inl ⟨by kernel_rfl, ?_⟩) ?_
                  rotate_left
                  · intro w'; go_simp; try with_reducible rfl
                  refine wpAny_take (i := 5) (v := ?_) rfl (by kernel_rfl) (by kernel_rfl) (by kernel_rfl) (fun _ _ _ h => h) (Or.inl ⟨by kernel_rfl, ?_⟩) ?_
                  rotate_left
                  · intro w'; go_simp; try with_reducible rfl
                  refine wpAny_take (i := 6) (v := ?_) rfl (by kernel_rfl) (by kernel_rfl) (by kernel_rfl) (fun _ _ _ h => h) (Or.inl ⟨by kernel_rfl, ?_⟩) ?_
                  rotate_left
                  · intro w'; go_simp; try with_reducible rfl
                  refine wpAny_take (i := 7) (v := ?_) rfl (by kernel_rfl) (by kernel_rfl) (by kernel_rfl) (fun _ _ _ h => h) (Or.inl ⟨by kernel_rfl, ?_⟩) ?_
                  rotate_left
                  · intro w'; go_simp; try with_reducible rfl
                  refine wpAny_take (i := 12) (v := ?_) rfl (by kernel_rfl) (by kernel_rfl) (by kernel_rfl) (fun _ _ _ h => h) (Or.inl ⟨by kernel_rfl, ?_⟩) ?_
                  rotate_left
                  · intro w'; go_simp; try with_reducible rfl
                  refine wpAny_ready (rs := [4, 8]) (by kernel_rfl) (by simp) ?_
                  refine AllReady.cons rfl (fun K hK => ?_) (AllReady.cons rfl (fun K hK => ?_) AllReady.nil)
                  · skip
                    go_simp
                    refine hK _ _ ?_
                    clear hK K
                    refine wpAny_ready (rs := [8]) (by kernel_rfl) (by simp) ?_
                    refine AllReady.cons rfl (fun K hK => ?_) AllReady.nil
                    go_simp
                    refine hK _ _ ?_
                    clear hK K
                    refine wpAny_take (i := 9) (v := ?_) rfl (by kernel_rfl) (by kernel_rfl) (by kernel_rfl) (fun _ _ _ h => h) (Or.inl ⟨by kernel_rfl, ?_⟩) ?_
                    rotate_left
                    · intro w'; go_simp; try with_reducible rfl
                    refine wpAny_ready (rs := [10]) (by kernel_rfl) (by simp) ?_
                    refine AllReady.cons rfl (fun K hK => ?_) AllReady.nil
                    go_simp
                    refine hK _ _ ?_
                    clear hK K
                    refine wpAny_take (i := 11) (v := ?_) rfl (by kernel_rfl) (by kernel_rfl) (by kernel_rfl) (fun _ _ _ h => h) (Or.inl ⟨by kernel_rfl, ?_⟩) ?_
                    rotate_left
                    · intro w'; go_simp; try with_reducible rfl
                    refine wpAny_take (i := 13) (v := ?_) rfl (by kernel_rfl) (by kernel_rfl) (by kernel_rfl) (fun _ _ _ h => h) (Or.inl ⟨by kernel_rfl, ?_⟩) ?_
                    rotate_left
                    · intro w'; go_simp; try with_reducible rfl
                    refine wpAny_ready (rs := [14]) (by kernel_rfl) (by simp) ?_
                    refine AllReady.cons rfl (fun K hK => ?_) AllReady.nil
                    go_simp
                    refine hK _ _ ?_
                    clear hK K
                    refine wpAny_ready (rs := [15]) (by kernel_rfl) (by simp) ?_
                    refine AllReady.cons rfl (fun K hK => ?_) AllReady.nil
                    refine step_append_run rfl _ _ _ _ rfl _ _ rfl rfl _ _ HRUN.out ?_
                    refine hK _ _ ?_
                    clear hK K
                    refine wpAny_take (i := 16) (v := ?_) rfl (by kernel_rfl) (by kernel_rfl) (by kernel_rfl) (fun _ _ _ h => h) (Or.inl ⟨by kernel_rfl, ?_⟩) ?_
                    rotate_left
                    · intro w'; go_simp; try with_reducible rfl
                    refine wpAny_take (i := 17) (v := ?_) rfl (by kernel_rfl) (by kernel_rfl) (by kernel_rfl) (fun _ _ _ h => h) (Or.inl ⟨by kernel_rfl, ?_⟩) ?_
                    rotate_left
                    · intro w'; go_simp; try with_reducible rfl
                    refine wpAny_ready (rs := [18]) (by kernel_rfl) (by simp) ?_
                    refine AllReady.cons rfl (fun K hK => ?_) AllReady.nil
                    go_simp
                    refine hK _ _ ?_
                    clear hK K
                    refine wpAny_done (by kernel_rfl) ?_ _
                    go_simp
                    go_wp2
                    go_roundw
                    case rel => exact ⟨j + 1, (s'.1, s'.2 ++ [(ahead ++ n, x)]), by omega, by go_num, HI5.out, HGO.out, hmono, hs', HV5.out⟩
                    case measure => simp [intOf]; omega
                  · skip
                    go_simp
                    refine hK _ _ ?_
                    clear hK K
                    refine wpAny_take (i := 9) (v := ?_) rfl (by kernel_rfl) (by kernel_rfl) (by kernel_rfl) (fun _ _ _ h => h) (Or.inl ⟨by kernel_rfl, ?_⟩) ?_
                    rotate_left
                    · intro w'; go_simp; try with_reducible rfl
                    refine wpAny_ready (rs := [4, 10]) (by kernel_rfl) (by simp) ?_
                    refine AllReady.cons rfl (fun K hK => ?_) (AllReady.cons rfl (fun K hK => ?_) AllReady.nil)
                    · skip
                      go_simp
                      refine hK _ _ ?_
                      clear hK K
                      refine wpAny_ready (rs := [10]) (by kernel_rfl) (by simp) ?_
                      refine AllReady.cons rfl (fun K hK => ?_) AllReady.nil
                      go_simp
                      refine hK _ _ ?_
                      clear hK K
                      refine wpAny_take (i := 11) (v := ?_) rfl (by kernel_rfl) (by kernel_rfl) (by kernel_rfl) (fun _ _ _ h => h) (Or.inl ⟨by kernel_rfl, ?_⟩) ?_
                      rotate_left
                      · intro w'; go_simp; try with_reducible rfl
                      refine wpAny_take (i := 13) (v := ?_) rfl (by kernel_rfl) (by kernel_rfl) (by kernel_rfl) (fun _ _ _ h => h) (Or.inl ⟨by kernel_rfl, ?_⟩) ?_
                      rotate_left
                      · intro w'; go_simp; try with_reducible rfl
                      refine wpAny_ready (rs := [14]) (by kernel_rfl) (by simp) ?_
                      refine AllReady.cons rfl (fun K hK => ?_) AllReady.nil
                      go_simp
                      refine hK _ _ ?_
                      clear hK K
                      refine wpAny_ready (rs := [15]) (by kernel_rfl) (by simp) ?_
                      refine AllReady.cons rfl (fun K hK => ?_) AllReady.nil
                      refine step_append_run rfl _ _ _ _ rfl _ _ rfl rfl _ _ HRUN.out ?_
                      refine hK _ _ ?_
                      clear hK K
                      refine wpAny_take (i := 16) (v := ?_) rfl (by kernel_rfl) (by kernel_rfl) (by kernel_rfl) (fun _ _ _ h => h) (Or.inl ⟨by kernel_rfl, ?_⟩) ?_
                      rotate_left
                      · intro w'; go_simp; try with_reducible rfl
                      refine wpAny_take (i := 17) (v := ?_) rfl (by kernel_rfl) (by kernel_rfl) (by kernel_rfl) (fun _ _ _ h => h) (Or.inl ⟨by kernel_rfl, ?_⟩) ?_
                      rotate_left
                      · intro w'; go_simp; try with_reducible rfl
                      refine wpAny_ready (rs := [18]) (by kernel_rfl) (by simp) ?_
                      refine AllReady.cons rfl (fun K hK => ?_) AllReady.nil
                      go_simp
                      refine hK _ _ ?_
                      clear hK K
                      refine wpAny_done (by kernel_rfl) ?_ _
                      go_simp
                      go_wp2
                      go_roundw
                      case rel => exact ⟨j + 1, (s'.1, s'.2 ++ [(ahead ++ n, x)]), by omega, by go_num, HI5.out, HGO.out, hmono, hs', HV5.out⟩
                      case measure => simp [intOf]; omega
                    · skip
                      go_simp
                      refine hK _ _ ?_
                      clear hK K
                      refine wpAny_take (i := 11) (v := ?_) rfl (by kernel_rfl) (by kernel_rfl) (by kernel_rfl) (fun _ _ _ h => h) (Or.inl ⟨by kernel_rfl, ?_⟩) ?_
                      rotate_left
                      · intro w'; go_simp; try with_reducible rfl
                      refine wpAny_take (i := 13) (v := ?_) rfl (by kernel_rfl) (by kernel_rfl) (by kernel_rfl) (fun _ _ _ h => h) (Or.inl ⟨by kernel_rfl, ?_⟩) ?_
                      rotate_left
                      · intro w'; go_simp; try with_reducible rfl
                      refine wpAny_ready (rs := [4, 14]) (by kernel_rfl) (by simp) ?_
                      refine AllReady.cons rfl (fun K hK => ?_) (AllReady.cons rfl (fun K hK => ?_) AllReady.nil)
                      · skip
                        go_simp
                        refine hK _ _ ?_
                        clear hK K
                        refine wpAny_ready (rs := [14]) (by kernel_rfl) (by simp) ?_
                        refine AllReady.cons rfl (fun K hK => ?_) AllReady.nil
                        go_simp
                        refine hK _ _ ?_
                        clear hK K
                        refine wpAny_ready (rs := [15]) (by kernel_rfl) (by simp) ?_
                        refine AllReady.cons rfl (fun K hK => ?_) AllReady.nil
                        refine step_append_run rfl _ _ _ _ rfl _ _ rfl rfl _ _ HRUN.out ?_
                        refine hK _ _ ?_
                        clear hK K
                        refine wpAny_take (i := 16) (v := ?_) rfl (by kernel_rfl) (by kernel_rfl) (by kernel_rfl) (fun _ _ _ h => h) (Or.inl ⟨by kernel_rfl, ?_⟩) ?_
                        rotate_left
                        · intro w'; go_simp; try with_reducible rfl
                        refine wpAny_take (i := 17) (v := ?_) rfl (by kernel_rfl) (by kernel_rfl) (by kernel_rfl) (fun _ _ _ h => h) (Or.inl ⟨by kernel_rfl, ?_⟩) ?_
                        rotate_left
                        · intro w'; go_simp; try with_reducible rfl
                        refine wpAny_ready (rs := [18]) (by kernel_rfl) (by simp) ?_
                        refine AllReady.cons rfl (fun K hK => ?_) AllReady.nil
                        go_simp
                        refine hK _ _ ?_
                        clear hK K
                        refine wpAny_done (by kernel_rfl) ?_ _
                        go_simp
                        go_wp2
                        go_roundw
                        case rel => exact ⟨j + 1, (s'.1, s'.2 ++ [(ahead ++ n, x)]), by omega, by go_num, HI5.out, HGO.out, hmono, hs', HV5.out⟩
                        case measure => simp [intOf]; omega
                      · skip
                        go_simp
                        refine hK _ _ ?_
                        clear hK K
                        refine wpAny_ready (rs := [4]) (by kernel_rfl) (by simp) ?_
                        refine AllReady.cons rfl (fun K hK => ?_) AllReady.nil
                        go_simp
                        refine hK _ _ ?_
                        clear hK K
                        refine wpAny_ready (rs := [15]) (by kernel_rfl) (by simp) ?_
                        refine AllReady.cons rfl (fun K hK => ?_) AllReady.nil
                        refine step_append_run rfl _ _ _ _ rfl _ _ rfl rfl _ _ HRUN.out ?_
                        refine hK _ _ ?_
                        clear hK K
                        refine wpAny_take (i := 16) (v := ?_) rfl (by kernel_rfl) (by kernel_rfl) (by kernel_rfl) (fun _ _ _ h => h) (Or.inl ⟨by kernel_rfl, ?_⟩) ?_
                        rotate_left
                        · intro w'; go_simp; try with_reducible rfl
                        refine wpAny_take (i := 17) (v := ?_) rfl (by kernel_rfl) (by kernel_rfl) (by kernel_rfl) (fun _ _ _ h => h) (Or.inl ⟨by kernel_rfl, ?_⟩) ?_
                        rotate_left
                        · intro w'; go_simp; try with_reducible rfl
                        refine wpAny_ready (rs := [18]) (by kernel_rfl) (by simp) ?_
                        refine AllReady.cons rfl (fun K hK => ?_) AllReady.nil
                        go_simp
                        refine hK _ _ ?_
                        clear hK K
                        refine wpAny_done (by kernel_rfl) ?_ _
                        go_simp
                        go_wp2
                        go_roundw
                        case rel => exact ⟨j + 1, (s'.1, s'.2 ++ [(ahead ++ n, x)]), by omega, by go_num, HI5.out, HGO.out, hmono, hs', HV5.out⟩
                        case measure => simp [intOf]; omega
        · obtain rfl : j = es.length := by omega
          have HGO := Lib.hid (hgo.trans (by rw [List.drop_length]; rfl : _ = (s', (0 : Int))))
          clear hgo
          go_wp2
          go_ret
          rw [HGO.out]
          exact ⟨rfl, (fun _ => ⟨HIR.out, hs'⟩), HV3.out.trans HVR.out⟩

theorem rfiles_any (hp : PressSpec) (b B : Nat) (bv : Value) (l : List (List UInt8)) (hf : Fair l) (hg : Globs b) : ∀ (k : Nat) (ahead d : List UInt8) (s : M.St) (w : World), 1001 ≤ k + s.1 → s.1 ≤ 1000 → ahead.length + 60 * k ≤ 60060 → wI b B bv s w → WCx b bv l w →
      Calls Tryz.prog 60 #[pt b, S d, S ahead] w (WPost b B bv (M.goD l k ahead d s) w)
  | 0, _, _, s, w, hk, hs, _, _, _ => by omega
  | k + 1, ahead, d, s, w, hk, hs, ha, hI, hC => rfiles_step hp b B bv l hf hg k (rfiles_any hp b B bv l hf hg k) ahead d s w hk hs ha hI hC
end Go.Proofs.YtabcobadglgfkaaGreatDoor
