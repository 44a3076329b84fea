/- Merged of: TreeQ TreeSM TreeS TreeT TreeU TreeV. -/
import Derived.Test.YtabcobadglgfkaaGreatDoorMT4
import Derived.Test.YtabcobadglgfkaaGreatDoorMT3
import Derived.Test.YtabcobadglgfkaaGreatDoorShelg
import Derived.Test.YtabcobadglgfkaaGreatDoorMF4
import Derived.Test.YtabcobadglgfkaaGreatDoorMC1
import Derived.Shelf.SlSortCmp.NoneTotal
import Derived.Shelf.SlSortCmp.WholeK
import Derived.Laws.MakeOwn
/- What files a digest is of: the closure that calls itself. -/
namespace Go.Proofs.YtabcobadglgfkaaGreatDoor
open Go.RowKit

theorem addFile_mono (l : List (List UInt8)) (p d : List UInt8) (s : M.St) : s.1 ≤ (M.addFile l p d s).1.1 := by
  unfold M.addFile
  split
  · exact Nat.le_refl _
  · split <;> exact Nat.le_refl _
/-- One entry's step. -/
def stepE (l : List (List UInt8)) (f : List UInt8 → List UInt8 → M.St → M.St × Int) (ahead : List UInt8) (e : M.En) (s : M.St) : M.St × Int := if e.2.1 = true then f (ahead ++ e.1 ++ [47]) e.2.2 s else M.addFile l (ahead ++ e.1) e.2.2 s
theorem goL_step (l : List (List UInt8)) (f : List UInt8 → List UInt8 → M.St → M.St × Int) (ahead : List UInt8) (e : M.En) (r : List M.En) (s : M.St) :
    M.goL l f ahead (e :: r) s = if (stepE l f ahead e s).2 ≠ 0 then stepE l f ahead e s else M.goL l f ahead r (stepE l f ahead e s).1 := rfl
theorem stepE_mono (l : List (List UInt8)) (f : List UInt8 → List UInt8 → M.St → M.St × Int) (hf : ∀ a d s, s.1 ≤ (f a d s).1.1) (ahead : List UInt8) (e : M.En) (s : M.St) : s.1 ≤ (stepE l f ahead e s).1.1 := by
  unfold stepE
  split
  · exact hf _ _ _
  · exact addFile_mono _ _ _ _
theorem goL_mono (l : List (List UInt8)) (f : List UInt8 → List UInt8 → M.St → M.St × Int) (hf : ∀ a d s, s.1 ≤ (f a d s).1.1) (ahead : List UInt8) : ∀ (es : List M.En) (s : M.St), s.1 ≤ (M.goL l f ahead es s).1.1
  | [], s => Nat.le_refl _
  | e :: r, s => by
      have hx := stepE_mono l f hf ahead e s
      rw [goL_step]
      split
      · exact hx
      · exact Nat.le_trans hx (goL_mono l f hf ahead r _)
theorem goD_mono (l : List (List UInt8)) : ∀ (k : Nat) (a d : List UInt8) (s : M.St), s.1 ≤ (M.goD l k a d s).1.1
  | 0, _, _, _ => Nat.le_refl _
  | k + 1, a, d, s => by
      unfold M.goD
      split
      · exact Nat.le_refl _
      · split
        · show s.1 ≤ s.1 + 1; omega
        · split
          · show s.1 ≤ s.1 + 1; omega
          · exact Nat.le_trans (show s.1 ≤ s.1 + 1 by omega) (goL_mono l _ (goD_mono l k) a _ (s.1 + 1, s.2))

theorem CSt.bump {c : Cx} {s : M.St} {w : World} {v : Value} (h : CSt c s w v) (h1 : s.1 < 1000) :
    CSt c (s.1 + 1, s.2) (w.setCell ⟨c.b9, 0, none⟩ (.int .i64 (((s.1 : Nat) : Int) + 1))) v ∧ Vis (cFoot c) w (w.setCell ⟨c.b9, 0, none⟩ (.int .i64 (((s.1 : Nat) : Int) + 1))) := by
  rw [show ((s.1 : Nat) : Int) + 1 = ((s.1 + 1 : Nat) : Int) from by omega]
  have hr9 : v.ownBlock ≠ some c.b9 := fun e => by have := row_from h.row c.b9 e; have := h.l9; omega
  have h' : CSt c (s.1 + 1, s.2) (w.setCell ⟨c.b9, 0, none⟩ (.int .i64 ((s.1 + 1 : Nat)))) v :=
    ⟨h.box.setOther h.ne _, row_other h.row hr9 0 _, h.cnt.set 0 _, h.l7, h.l9, h.ne, Nat.le_trans h.le (by simp [World.setCell]), h.few, by show s.1 + 1 ≤ 1000; omega, h.small, h.g7, h.g9⟩
  exact ⟨h', ⟨(Keep.refl _ w).setCell (p := ⟨c.b9, 0, none⟩) (Or.inr (Or.inl (h.foot.2 (Or.inr (Or.inl rfl))))) _, fun k hk => Or.inl (h.foot.2 (h'.foot.1 hk))⟩⟩

theorem enter_collect2 : ∀ args w, (callFunc 94 args).run Tryz.prog w = .ok (.enter 94 args) w := enters_of Tryz.func94 (by kernel_rfl) rfl
theorem enter_collect1 : ∀ args w, (callFunc 93 args).run Tryz.prog w = .ok (.enter 93 args) w := enters_of Tryz.func93 (by kernel_rfl) rfl
theorem enter_finder1 : ∀ args w, (callFunc 128 args).run Tryz.prog w = .ok (.enter 128 args) w := enters_of Tryz.func128 (by kernel_rfl) rfl

set_option maxHeartbeats 4000000 in
set_option maxRecDepth 100000 in
theorem addDir_step (c : Cx) (hf : Fair c.l) (k : Nat)
    (ih : ∀ (ahead d : List UInt8) (s : M.St) (w : World), 1001 ≤ k + s.1 → ahead.length + 60 * k ≤ 60060 → d.length ≤ maxLen → cI c s w → Ctx c w →
      Calls Tryz.prog 94 #[S ahead, S d, pt c.b9, pt c.b6, pt c.b10, pt c.b8] w (CPost c (M.goD c.l k ahead d s) w))
    (ahead d : List UInt8) (s : M.St) (w : World) (hk : 1001 ≤ k + 1 + s.1) (ha : ahead.length + 60 * (k + 1) ≤ 60060) (hd : d.length ≤ maxLen) (hI : cI c s w) (hC : Ctx c w) :
    Calls Tryz.prog 94 #[S ahead, S d, pt c.b9, pt c.b6, pt c.b10, pt c.b8] w (CPost c (M.goD c.l (k + 1) ahead d s) w) := by
  have hI0 := hI
  obtain ⟨v, hst⟩ := hI
  have h9 := hst.cnt.cellN 0 rfl
  have f9 := hst.cnt.free 0
  have hdirs := hst.dirs
  have eF := enter_finder1
  have e1 := enter_collect1
  have e2 := enter_collect2
  unfold M.goD
  by_cases h1000 : s.1 = 1000
  · rw [if_pos h1000]
    have hz : ((s.1 : Nat) : Int) = 1000 := by omega
    have HI := Lib.hid hI0
    clear ih hst hC hI0
    go_enter Tryz.func94, Tryz.ntmps94
    go_wp2
    go_ret
    exact ⟨rfl, HI.out, Vis.refl _⟩
  rw [if_neg h1000]
  have hlt : s.1 < 1000 := by omega
  have hz : ¬ ((s.1 : Nat) : Int) = 1000 := by omega
  obtain ⟨hst1, hv1⟩ := hst.bump hlt
  have hw1 : IntKind.i64.wrap (((s.1 : Nat) : Int) + 1) = ((s.1 : Nat) : Int) + 1 := IntWalk.i64_in _ (by omega)
  have hC1 := hC.vis hI0 hv1
  have HF := Lib.hid (find1_any c.bm c.bs c.mb c.v c.l hf d hd _ hC1.cm hC1.cs (hC1.own hf) hC1.sl)
  have h6 := hC1.c6
  have HI1 := Lib.hid (show cI c (s.1 + 1, s.2) (w.setCell ⟨c.b9, 0, none⟩ (.int .i64 (((s.1 : Nat) : Int) + 1))) from ⟨v, hst1⟩)
  have HV1 := Lib.hid hv1
  have HC1 := Lib.hid hC1
  have HIH := Lib.hid ih
  clear ih hst hst1 hv1 hC1 hC hI0
  generalize hw' : w.setCell ⟨c.b9, 0, none⟩ (.int .i64 (((s.1 : Nat) : Int) + 1)) = w1 at *
  cases hx : M.find c.l d with
  | none =>
    rw [hx] at HF
    clear hx
    go_enter Tryz.func94, Tryz.ntmps94
    go_wp2_with (go_at_fn 128; refine HF.out.mono ?_; rintro e w2 ⟨rfl, rfl⟩)
    go_ret
    exact ⟨rfl, HI1.out, HV1.out⟩
  | some x =>
    have hxs := find_small hf hx
    rw [hx] at HF
    clear hx
    have hd0 := decode_any x w1 HC1.out.env.tab HC1.out.env.mx hxs
    unfold DecPost at hd0
    have HD := Lib.hid hd0
    have HV := Lib.hid (visit_c c)
    clear hd0
    simp only
    cases hdec : M.decode x with
    | none =>
      rw [hdec] at HD
      go_enter Tryz.func94, Tryz.ntmps94
      go_wp2_with (first
        | (go_at_fn 128; refine HF.out.mono ?_; rintro e w2 ⟨rfl, rfl⟩)
        | ((with_reducible refine HD.out.mono ?_); rintro e w2 ⟨u, rfl, hel, hub, ho2⟩))
      go_ret
      exact ⟨rfl, HV.out.old _ _ _ HI1.out ho2, HV1.out.old HV.out HI1.out ho2⟩
    | some es =>
      have hright := (M.decode_some hdec).1
      have hes := decode_len hdec
      have HRT := Lib.hid (right_all hright)
      rw [hdec] at HD
      simp only [Option.getD_some] at HD
      clear hright
      go_enter Tryz.func94, Tryz.ntmps94
      go_wp2_with (first
        | (go_at_fn 128; refine HF.out.mono ?_; rintro e w2 ⟨rfl, rfl⟩)
        | ((with_reducible refine HD.out.mono ?_); rintro e w2 ⟨u, rfl, hel, hub, ho2⟩; obtain ⟨pu, cu, rfl⟩ := hel.len))
      have HI2 := Lib.hid (HV.out.old _ _ _ HI1.out ho2)
      have HV2 := Lib.hid (HV1.out.old HV.out HI1.out ho2)
      have HC2 := Lib.hid (HC1.out.old HI1.out ho2)
      have HEL := Lib.hid hel
      have HSE := Lib.hid (fun b hb => Safe.new HV.out HI1.out ho2 (hub b hb).1 (hub b hb).2)
      clear hel hub ho2 HF HD h6 h9 f9 hw' hdec
      go_loopw [37] (fun i wr => ∃ (j : Nat) (s' : M.St), j ≤ es.length ∧ i = .int .i64 j ∧ cI c s' wr ∧ M.goL c.l (M.goD c.l k) ahead es (s.1 + 1, s.2) = M.goL c.l (M.goD c.l k) ahead (es.drop j) s' ∧ s.1 + 1 ≤ s'.1 ∧ Vis (cFoot c) w2 wr) (fun i _ => es.length - (intOf i).toNat)
      case atStart => exact ⟨0, (s.1 + 1, s.2), Nat.zero_le _, rfl, HI2.out, by simp, Nat.le_refl _, Vis.refl _⟩
      case round =>
        obtain ⟨j, s', hj, rfl, hIr, hgo, hmono, hvis⟩ := hrel
        have HIR := Lib.hid hIr
        have HVR := Lib.hid hvis
        clear hIr hvis
        by_cases hlt : j < es.length
        · obtain ⟨b, off, rfl, hb, hc⟩ := (HVR.out.el HEL.out HSE.out).at (by intro h; rw [h] at hlt; exact absurd hlt (Nat.not_lt_zero _))
          obtain ⟨hc0, hc1, hc2⟩ := hc j hlt
          rw [List.drop_eq_getElem_cons hlt, goL_step] at hgo
          obtain ⟨hsn, hsg⟩ := rightE_small (HRT.out _ (List.getElem_mem hlt))
          have HMN := Lib.hid (stepE_mono c.l (M.goD c.l k) (goD_mono c.l k) ahead es[j] s')
          clear hc
          generalize es[j] = x at *
          obtain ⟨n, isd, g⟩ := x
          simp only at hc0 hc1 hc2 hsn hsg
          have hn0 := (Blk.new wr #[S n, .bool isd, S g] 33).cellN 0 rfl
          have hn1 := (Blk.new wr #[S n, .bool isd, S g] 33).cellN 1 rfl
          have hn2 := (Blk.new wr #[S n, .bool isd, S g] 33).cellN 2 rfl
          have HOA := Lib.hid (Old.alloc wr (.cells #[S n, .bool isd, S g] 33))
          have HIW := Lib.hid (HV.out.old _ _ _ HIR.out HOA.out)
          have HVW := Lib.hid (HVR.out.old HV.out HIR.out HOA.out)
          have HCW := Lib.hid ((HC2.out.vis HI2.out HVR.out).old HIR.out HOA.out)
          have k8 := HCW.out.c8
          have k10 := HCW.out.c10
          have hal : ahead.length ≤ 60060 := by omega
          have z1 := size_mk ahead
          have z2 := size_mk n
          have z3 := size_mk (ahead ++ n)
          have z4 : (ahead ++ n).length = ahead.length + n.length := List.length_append
          have a1 := ba_append ahead n
          cases isd with
          | true =>
            have z5 := size_mk (ahead ++ n ++ [47])
            have a2 := ba_append (ahead ++ n) [47]
            have z6 : (ahead ++ n ++ [47]).length = ahead.length + n.length + 1 := by simp; omega
            have hstep : stepE c.l (M.goD c.l k) ahead (n, true, g) s' = M.goD c.l k (ahead ++ n ++ [47]) g s' := rfl
            rw [hstep] at hgo HMN
            have HR := Lib.hid (HIH.out (ahead ++ n ++ [47]) g s' _ (by omega) (by rw [z6]; omega) (by unfold maxLen; omega) HIW.out HCW.out)
            clear hstep
            generalize M.goD c.l k (ahead ++ n ++ [47]) g s' = X at *
            rw [List.append_assoc] at HR
            obtain ⟨s2, er⟩ := X
            have HGO := Lib.hid hgo
            clear hgo
            by_cases her : er = 0
            · subst her
              go_wp2_with (go_at_fn 94; refine HR.out.mono ?_; rintro e w4 ⟨rfl, hI4, hv4⟩)
              go_roundw
              case rel => exact ⟨j + 1, s2, by omega, by go_num, hI4, by rw [HGO.out, if_neg (by simp)], Nat.le_trans hmono HMN.out, HVW.out.trans hv4⟩
              case measure => simp [intOf]; omega
            · go_wp2_with (go_at_fn 94; refine HR.out.mono ?_; rintro e w4 ⟨rfl, hI4, hv4⟩)
              go_ret
              rw [HGO.out, if_pos (by exact her)]
              exact ⟨rfl, hI4, HV2.out.trans (HVW.out.trans hv4)⟩
          | false =>
            have hstep : stepE c.l (M.goD c.l k) ahead (n, false, g) s' = M.addFile c.l (ahead ++ n) g s' := rfl
            rw [hstep] at hgo HMN
            have HR := Lib.hid (addFile_any c hf s' (ahead ++ n) g (by rw [z4]; omega) (by unfold maxLen; omega) _ HIW.out HCW.out)
            clear hstep
            generalize M.addFile c.l (ahead ++ n) g s' = X at *
            obtain ⟨s2, er⟩ := X
            have HGO := Lib.hid hgo
            clear hgo
            by_cases her : er = 0
            · subst her
              go_wp2_with (go_at_fn 93; refine HR.out.mono ?_; rintro e w4 ⟨rfl, hI4, hv4⟩)
              go_roundw
              case rel => exact ⟨j + 1, s2, by omega, by go_num, hI4, by rw [HGO.out, if_neg (by simp)], Nat.le_trans hmono HMN.out, HVW.out.trans hv4⟩
              case measure => simp [intOf]; omega
            · go_wp2_with (go_at_fn 93; refine HR.out.mono ?_; rintro e w4 ⟨rfl, hI4, hv4⟩)
              go_ret
              rw [HGO.out, if_pos (by exact her)]
              exact ⟨rfl, hI4, HV2.out.trans (HVW.out.trans hv4)⟩
        · obtain rfl : j = es.length := by omega
          have HGO := Lib.hid (hgo.trans (by rw [List.drop_length]; rfl : _ = (s', (0 : Int))))
          clear hgo
          go_wp2
          go_ret
          rw [HGO.out]
          exact ⟨rfl, HIR.out, HV2.out.trans HVR.out⟩

/-- The closure's answer is the document's. -/
theorem addDir_any (c : Cx) (hf : Fair c.l) : ∀ (k : Nat) (ahead d : List UInt8) (s : M.St) (w : World), 1001 ≤ k + s.1 → ahead.length + 60 * k ≤ 60060 → d.length ≤ maxLen → cI c s w → Ctx c w →
      Calls Tryz.prog 94 #[S ahead, S d, pt c.b9, pt c.b6, pt c.b10, pt c.b8] w (CPost c (M.goD c.l k ahead d s) w)
  | 0, _, _, s, w, hk, _, _, hI, _ => by
      obtain ⟨v, h⟩ := hI
      have := h.dirs
      omega
  | k + 1, ahead, d, s, w, hk, ha, hd, hI, hC => addDir_step c hf k (addDir_any c hf k) ahead d s w hk ha hd hI hC
end Go.Proofs.YtabcobadglgfkaaGreatDoor

/- Files in the order of their paths, and that the paths of a digest's files are apart: plain facts. -/
namespace Go.Proofs.YtabcobadglgfkaaGreatDoor

/-- In the order of their paths. -/
def inOrder (l : List M.Fi) : Prop := l.Pairwise fun f g => M.bl g.1 f.1 = false
def apart (l : List M.Fi) : Prop := l.Pairwise fun f g => f.1 ≠ g.1
theorem apart_eq {l : List M.Fi} (h : apart l) : ∀ f ∈ l, ∀ g ∈ l, f.1 = g.1 → f = g := by
  induction l with
  | nil => intro f hf; cases hf
  | cons x r ih =>
    have h' := List.pairwise_cons.1 h
    intro f hf g hg e
    rcases List.mem_cons.1 hf with e1 | h1
    · rcases List.mem_cons.1 hg with e2 | h2
      · rw [e1, e2]
      · exact absurd (by rw [← e1]; exact e) (h'.1 g h2)
    · rcases List.mem_cons.1 hg with e2 | h2
      · exact absurd (by rw [← e2]; exact e.symm) (h'.1 f h1)
      · exact ih h'.2 f h1 g h2 e
theorem order_unique {l a b : List M.Fi} (h : apart l) (ha : a.Perm l) (hb : b.Perm l) (oa : inOrder a) (ob : inOrder b) : a = b := by
  refine List.Perm.eq_of_pairwise (le := fun f g => M.bl g.1 f.1 = false) (fun f g hf hg h1 h2 => ?_) (show a.Pairwise fun f g => M.bl g.1 f.1 = false from oa) (show b.Pairwise fun f g => M.bl g.1 f.1 = false from ob) (ha.trans hb.symm)
  refine apart_eq h f (ha.mem_iff.1 hf) g (hb.mem_iff.1 hg) ?_
  by_cases e : f.1 = g.1
  · exact e
  · have := M.bl_total h2 e
    rw [h1] at this; cases this
theorem insP_perm : ∀ (l : List M.Fi) (f : M.Fi), (M.insP l f).Perm (f :: l)
  | [], f => List.Perm.refl _
  | g :: r, f => by
      rw [M.insP]
      split
      · exact List.Perm.refl _
      · exact ((insP_perm r f).cons g).trans (List.Perm.swap f g r)
theorem insP_order : ∀ {l : List M.Fi} (f : M.Fi), inOrder l → inOrder (M.insP l f)
  | [], f, _ => List.pairwise_singleton _ _
  | g :: r, f, h => by
      have h' := List.pairwise_cons.1 h
      rw [M.insP]
      split
      · rename_i hfg
        refine List.pairwise_cons.2 ⟨fun x hx => ?_, h⟩
        rcases List.mem_cons.1 hx with rfl | hx
        · exact M.bl_asymm hfg
        · cases hb : M.bl x.1 f.1 with
          | false => rfl
          | true => have := M.bl_trans hb hfg; rw [h'.1 x hx] at this; cases this
      · rename_i hfg
        refine List.pairwise_cons.2 ⟨fun x hx => ?_, insP_order f h'.2⟩
        rcases List.mem_cons.1 ((insP_perm r f).mem_iff.1 hx) with rfl | hx
        · simpa using hfg
        · exact h'.1 x hx
theorem foldl_insP : ∀ (l acc : List M.Fi), inOrder acc → inOrder (l.foldl M.insP acc) ∧ (l.foldl M.insP acc).Perm (acc ++ l)
  | [], acc, h => ⟨h, by simp⟩
  | f :: l, acc, h => by
      have ih := foldl_insP l (M.insP acc f) (insP_order f h)
      refine ⟨ih.1, ih.2.trans ?_⟩
      exact ((insP_perm acc f).append_right l).trans (by simpa using (List.perm_middle (a := f) (l₁ := acc) (l₂ := l)).symm)
theorem sortP_order (l : List M.Fi) : inOrder (M.sortP l) := (foldl_insP l [] List.Pairwise.nil).1
theorem sortP_perm (l : List M.Fi) : (M.sortP l).Perm l := by simpa [M.sortP] using (foldl_insP l [] List.Pairwise.nil).2
theorem sortP_eq {l a : List M.Fi} (h : apart l) (ha : a.Perm l) (oa : inOrder a) : a = M.sortP l := order_unique h ha (sortP_perm l) oa (sortP_order l)

/-- What an entry's files are called. -/
def entryOf (ahead n : List UInt8) (f : M.Fi) : Prop := f.1 = ahead ++ n ∨ ∃ y, f.1 = ahead ++ n ++ 47 :: y
theorem entryOf_name {ahead n m : List UInt8} {f g : M.Fi} (hn : ∀ c ∈ n, c ≠ 47) (hm : ∀ c ∈ m, c ≠ 47) (h1 : entryOf ahead n f) (h2 : entryOf ahead m g) (e : f.1 = g.1) : n = m := by
  have key : ∀ {k : List UInt8} {x : List UInt8}, (∀ c ∈ k, c ≠ 47) → (x = ahead ++ k ∨ ∃ y, x = ahead ++ k ++ 47 :: y) → M.head1 (x.drop ahead.length) = k := by
    intro k x hk hx
    rcases hx with rfl | ⟨y, rfl⟩
    · rw [List.drop_left]; exact M.head1_all hk
    · rw [List.append_assoc, List.drop_left]; exact M.head1_at y hk
  rw [← key hn h1, ← key hm h2, e]
/-- What a step adds: files of one directory, all apart. -/
def Adds (ahead : List UInt8) (s s' : M.St) : Prop := ∃ xs, s'.2 = s.2 ++ xs ∧ apart xs ∧ ∀ f ∈ xs, ∃ y, f.1 = ahead ++ y
theorem rightE_ne {e : M.En} (h : M.rightE e = true) : ∀ c ∈ e.1, c ≠ 47 := by
  rw [rightE_isN] at h
  simp only [Bool.and_eq_true] at h
  have h := h.1
  unfold isN at h
  simp only [Bool.and_eq_true] at h
  intro c hc e
  subst e
  simpa [hc] using h.2
theorem goL_adds (l : List (List UInt8)) (f : List UInt8 → List UInt8 → M.St → M.St × Int) (hf : ∀ a d s, Adds a s (f a d s).1) (ahead : List UInt8) : ∀ (es : List M.En) (s : M.St), (∀ e ∈ es, ∀ c ∈ e.1, c ≠ 47) → (es.Pairwise fun a b => a.1 ≠ b.1) →
    ∃ xs, (M.goL l f ahead es s).1.2 = s.2 ++ xs ∧ apart xs ∧ ∀ x ∈ xs, ∃ e ∈ es, entryOf ahead e.1 x
  | [], s, _, _ => ⟨[], by simp [M.goL], List.Pairwise.nil, fun x hx => by cases hx⟩
  | e :: r, s, hn, hp => by
      have hp' := List.pairwise_cons.1 hp
      rw [M.goL_cons]
      simp only
      obtain ⟨xs, hx1, hx2, hx3⟩ : ∃ xs, (if e.2.1 = true then f (ahead ++ e.1 ++ [47]) e.2.2 s else M.addFile l (ahead ++ e.1) e.2.2 s).1.2 = s.2 ++ xs ∧ apart xs ∧ ∀ x ∈ xs, entryOf ahead e.1 x := by
        split
        · obtain ⟨xs, h1, h2, h3⟩ := hf (ahead ++ e.1 ++ [47]) e.2.2 s
          exact ⟨xs, h1, h2, fun x hx => by obtain ⟨y, hy⟩ := h3 x hx; exact Or.inr ⟨y, by rw [hy]; simp⟩⟩
        · unfold M.addFile
          split
          · exact ⟨[], by simp, List.Pairwise.nil, fun x hx => by cases hx⟩
          · split
            · exact ⟨[], by simp, List.Pairwise.nil, fun x hx => by cases hx⟩
            · refine ⟨[_], rfl, List.pairwise_singleton _ _, fun x hx => ?_⟩
              rw [List.mem_singleton] at hx
              subst hx
              exact Or.inl rfl
      generalize (if e.2.1 = true then f (ahead ++ e.1 ++ [47]) e.2.2 s else M.addFile l (ahead ++ e.1) e.2.2 s) = X at *
      split
      · exact ⟨xs, hx1, hx2, fun x hx => ⟨e, by simp, hx3 x hx⟩⟩
      · obtain ⟨ys, hy1, hy2, hy3⟩ := goL_adds l f hf ahead r X.1 (fun x hx => hn x (by simp [hx])) hp'.2
        refine ⟨xs ++ ys, by rw [hy1, hx1, List.append_assoc], List.pairwise_append.2 ⟨hx2, hy2, fun x hx y hy => ?_⟩, fun x hx => ?_⟩
        · obtain ⟨e', he', hu⟩ := hy3 y hy
          intro h
          exact hp'.1 e' he' (entryOf_name (hn e (by simp)) (hn e' (by simp [he'])) (hx3 x hx) hu h)
        · rcases List.mem_append.1 hx with hx | hx
          · exact ⟨e, by simp, hx3 x hx⟩
          · obtain ⟨e', he', hu⟩ := hy3 x hx
            exact ⟨e', by simp [he'], hu⟩
theorem right_names {es : List M.En} (h : M.right es = true) : es.Pairwise fun a b => a.1 ≠ b.1 := by
  have h2 : ∀ i j (hi : i < j) (hj : j < es.length), M.bl (es[i]'(by omega)).1 es[j].1 = true := by
    intro i j hi
    induction j with
    | zero => omega
    | succ j ih =>
      intro hj
      have hr := (M.right_iff es).1 h (j + 1) hj
      rw [rightAt_eq hj] at hr
      simp only [Bool.and_eq_true, Bool.or_eq_true, decide_eq_true_eq] at hr
      have hs : M.bl (es[j]'(by omega)).1 es[j + 1].1 = true := by
        rcases hr.2 with e | e
        · omega
        · exact e
      by_cases e : i = j
      · subst e; exact hs
      · exact M.bl_trans (ih (by omega) (by omega)) hs
  exact List.pairwise_iff_getElem.2 fun i j hi hj hij => M.bl_ne (h2 i j hij hj)
theorem goD_adds (l : List (List UInt8)) : ∀ (k : Nat) (a d : List UInt8) (s : M.St), Adds a s (M.goD l k a d s).1
  | 0, a, _, s => ⟨[], by simp [M.goD], List.Pairwise.nil, fun x hx => by cases hx⟩
  | k + 1, a, d, s => by
      unfold M.goD
      split
      · exact ⟨[], by simp, List.Pairwise.nil, fun x hx => by cases hx⟩
      · split
        · exact ⟨[], by simp, List.Pairwise.nil, fun x hx => by cases hx⟩
        · split
          · exact ⟨[], by simp, List.Pairwise.nil, fun x hx => by cases hx⟩
          · rename_i es hes
            have hr := (M.decode_some hes).1
            obtain ⟨xs, h1, h2, h3⟩ := goL_adds l (M.goD l k) (goD_adds l k) a es (s.1 + 1, s.2) (fun e he => rightE_ne (right_all hr e he)) (right_names hr)
            refine ⟨xs, h1, h2, fun f hf => ?_⟩
            obtain ⟨e, _, hu⟩ := h3 f hf
            rcases hu with hu | ⟨y, hu⟩
            · exact ⟨_, hu⟩
            · exact ⟨e.1 ++ 47 :: y, by rw [hu]; simp⟩
theorem collect_apart (l : List (List UInt8)) (root : List UInt8) : apart (M.collect l root).1 := by
  obtain ⟨xs, h1, h2, _⟩ := goD_adds l 1001 [] root (0, [])
  show apart (M.goD l 1001 [] root (0, [])).1.2
  rw [h1]
  simpa using h2
end Go.Proofs.YtabcobadglgfkaaGreatDoor

/- What the sort of files gives, and the comparison. -/
namespace Go.Proofs.YtabcobadglgfkaaGreatDoor
open Go.RowKit Go.Shelf Go.Lib Go.Sort

/-- The order of two texts, as a number. -/
def cmpB (a b : List UInt8) : Int := if M.bl a b = true then -1 else if M.bl b a = true then 1 else 0
def cmpF (f g : M.Fi) : Int := cmpB f.1 g.1
def encF (f : M.Fi) : List Value := [S f.1, S f.2]
theorem ltF (f g : M.Fi) : ltOf cmpF f g = M.bl f.1 g.1 := by
  unfold ltOf cmpF cmpB
  by_cases h : M.bl f.1 g.1 = true
  · simp [h]
  · by_cases h2 : M.bl g.1 f.1 = true
    · simp [h, h2]
    · simp [h, h2]
theorem swoF : SWO (ltOf cmpF) where
  irrefl x := by rw [ltF, M.bl_irrefl]
  trans x y z h1 h2 := by rw [ltF] at *; exact M.bl_trans h1 h2
  ntrans x y z h1 h2 := by
    rw [ltF] at *
    cases h : M.bl x.1 z.1 with
    | false => rfl
    | true =>
      by_cases e : y.1 = x.1
      · rw [← e, h2] at h; cases h
      · have h3 := M.bl_total h1 (fun e2 => e e2.symm)
        rw [M.bl_trans h3 h] at h2
        cases h2

set_option maxHeartbeats 1000000 in
theorem compare_any (a b : List UInt8) (w : World) : Calls Tryz.prog 59 #[S a, S b] w fun e w' => e = .returned (.int .i64 (cmpB a b)) ∧ w' = w := by
  have h1 : ∀ x : List UInt8, ∀ w : World, Calls Tryz.prog 96 #[S x] w fun e w' => e = .returned (.bool false) ∧ w' = w := fun x w => by
    have hxx := beq_list x x
    rw [decide_eq_true rfl] at hxx
    go_enter Tryz.func96, Tryz.ntmps96
    go_wp2
    go_ret
    exact ⟨ret_bool (by simp), rfl⟩
  have H1 := Lib.hid h1
  unfold cmpB
  clear h1
  by_cases h : M.bl a b = true
  · rw [if_pos h]
    have hb : Op.bytesLess a b = true := h
    go_enter Tryz.func59, Tryz.ntmps59
    go_wp2_with ((with_reducible refine (H1.out _ _).mono ?_); rintro e w2 ⟨rfl, rfl⟩)
    go_ret
    exact ⟨rfl, rfl⟩
  · rw [if_neg h]
    have hb : Op.bytesLess a b = false := by cases hx : Op.bytesLess a b with | false => rfl | true => exact absurd hx h
    by_cases e : a = b
    · subst e
      rw [if_neg h]
      have he : (a == a) = true := by rw [beq_list]; simp
      go_enter Tryz.func59, Tryz.ntmps59
      go_wp2_with ((with_reducible refine (H1.out _ _).mono ?_); rintro e w2 ⟨rfl, rfl⟩)
      go_ret
      exact ⟨rfl, rfl⟩
    · rw [if_pos (M.bl_total (by cases hx : M.bl a b with | false => rfl | true => exact absurd hx h) e)]
      have he : (a == b) = false := by rw [beq_list]; exact decide_eq_false e
      go_enter Tryz.func59, Tryz.ntmps59
      go_wp2_with ((with_reducible refine (H1.out _ _).mono ?_); rintro e w2 ⟨rfl, rfl⟩)
      go_ret
      exact ⟨rfl, rfl⟩

theorem enter_files1 : ∀ args w, (callFunc 58 args).run Tryz.prog w = .ok (.enter 58 args) w := enters_of Tryz.func58 (by kernel_rfl) rfl
set_option maxHeartbeats 1000000 in
theorem files1_any (f g : M.Fi) (W : World) : Calls Tryz.prog 58 #[.agg #[S f.1, S f.2], .agg #[S g.1, S g.2]] W fun e w' => e = .returned (.int .i64 (cmpF f g)) ∧ ∃ q os', w' = grow (W.drewN q) os' := by
  have HC := Lib.hid (fun w1 : World => compare_any f.1 g.1 w1)
  unfold cmpF
  generalize cmpB f.1 g.1 = r at *
  go_enter Tryz.func58, Tryz.ntmps58
  go_wp2_with ((with_reducible refine (HC.out _).mono ?_); rintro e w2 ⟨rfl, rfl⟩)
  go_ret
  exact ⟨rfl, 0, _, by rw [alloc_eq_grow, alloc_eq_grow, grow_grow]; rfl⟩
theorem cmpLaysF (blk off size : Nat) (w : World) : CmpLays Tryz.prog 58 #[] encF 2 cmpF blk off size w := fun _ _ _ _ x y => files1_any x y _
theorem isAggFile : ∀ w, (isAgg (Tryz.sortF_ren.t 24)).run Tryz.prog w = .ok true w := by first | exact Tryz.isAgg54 | (intro w; kernel_rfl)
theorem sizeFile : ∀ w, (Go.sizeOf (Tryz.sortF_ren.t 24)).run Tryz.prog w = .ok 2 w := by first | exact Tryz.sizeOf54 | (intro w; kernel_rfl)
theorem grownBy_sortK {w : World} {g n : Nat} {os : Array Obj} (d : Array M.Fi) : w.grownBy (sortWorldK encF 2 w g 0 n d os) (some g) := by
  refine ⟨rfl, rfl, rfl, by simp [sortWorldK, putRowK], fun k hk hne => ?_⟩
  unfold sortWorldK putRowK
  rw [heap_grow_old _ _ (by simpa using hk)]
  have : g ≠ k := fun e => hne (by rw [e])
  simp [putRow, mapBlock, Sort.ahead, Array.getElem?_modify, this]

/-- Files, sorted in place by their paths. -/
theorem sortF_any {B : Nat} {w : World} {p : Option Addr} {n cap : Nat} {fs : List M.Fi} (h : Own B w (.slice p n cap) fs) (hl : fs.length ≤ 1000) :
    Calls Tryz.prog 57 #[.slice p n cap, .func (.func 58) #[] #[]] w fun e w' => e = .returned (.tuple #[]) ∧ ∃ L : List M.Fi, L.Perm fs ∧ inOrder L ∧ Fl w' (.slice p n cap) L ∧ w.grownBy w' (Value.slice p n cap).ownBlock := by
  rcases h.2 with ⟨hv, hz⟩ | ⟨gb, cap', cur, hv, hbase, hgb, r1, r2, r3, r4⟩
  · injection hv with h1 h2 h3
    subst h1; subst h2; subst h3
    have hl0 : fs = [] := List.eq_nil_of_length_eq_zero hz
    subst hl0
    refine (AnyF.slices_SortFunc_none { Tryz.sortF with } none 0 (.func (.func 58) #[] #[]) w).mono ?_
    rintro e w' ⟨rfl, rfl⟩
    exact ⟨rfl, [], List.Perm.refl _, List.Pairwise.nil, Fl.nil _, ⟨rfl, rfl, rfl, Nat.le_refl _, fun _ _ _ => rfl⟩⟩
  · injection hv with h1 h2 h3
    subst h1; subst h2; subst h3
    have hgl := (Array.getElem?_eq_some_iff.1 hgb).1
    have hH : HoldsK encF 2 w gb 0 fs.toArray := by
      intro t ht
      have ht' : t < fs.length * 2 := by simpa using ht
      refine ⟨?_, by simp [World.frozen?, hgb]⟩
      rw [get_flatK encF 2 fs.toArray t (by simpa using ht')]
      have hx : w.cell? ⟨gb, 0 + t, none⟩ = (cells fs)[t]? := by
        rw [← r4, List.getElem?_take, if_pos ht', Nat.zero_add]
        simp [World.cell?, hgb]
      have hj : t / 2 < fs.length := by omega
      have hc := cells_at fs (t / 2) hj
      have hg : fs.toArray[t / 2]! = fs[t / 2] := by simp [getElem!_pos, hj]
      rw [hx, hg]
      rcases Nat.mod_two_eq_zero_or_one t with e | e
      · rw [e]
        have e2 : t = t / 2 * 2 := by omega
        exact (congrArg (fun i => (cells fs)[i]?) e2).trans hc.1
      · rw [e]
        have e2 : t = t / 2 * 2 + 1 := by omega
        exact (congrArg (fun i => (cells fs)[i]?) e2).trans hc.2
    have hcon := AnyQ.slices_SortFunc Tryz.sortF 2 isAggFile sizeFile encF (fun _ => rfl) (fun x v hv => by simp only [encF, List.mem_cons, List.not_mem_nil, or_false] at hv; rcases hv with rfl | rfl <;> rfl) cmpF swoF 58 #[] gb 0 cap fs.toArray w enter_files1 (cmpLaysF gb 0 _ w) hH hgl (by simp; omega)
    rw [show fs.toArray.size = fs.length from by simp] at hcon
    refine hcon.mono ?_
    rintro e w' ⟨rfl, d', m, os, hp, hs, rfl⟩
    have hds : d'.size = fs.length := by have := hp.1; simpa using this
    have hdl : d'.toList.length = fs.length := by simpa using hds
    have hperm : d'.toList.Perm fs := by
      have h3 := hp.2.2
      have e1 : d'.extract 0 fs.length = d' := by rw [← hds]; simp
      have e2 : fs.toArray.extract 0 fs.length = fs.toArray := by simp
      rw [e1, e2] at h3
      exact h3
    have hord : inOrder d'.toList := by
      refine List.pairwise_iff_getElem.2 fun i j hi hj hij => ?_
      have h3 := hs i j (Nat.zero_le _) hij (by rw [← hdl]; exact hj)
      rw [ltF] at h3
      have g1 : d'[i]! = d'.toList[i] := by rw [getElem!_pos d' i (by simpa using hi)]; simp
      have g2 : d'[j]! = d'.toList[j] := by rw [getElem!_pos d' j (by simpa using hj)]; simp
      rw [g1, g2] at h3
      exact h3
    have hg := grownBy_sortK (w := w) (g := gb) (n := m) (os := os) d'
    have hH2 := holdsK_sortWorldK encF 2 w gb 0 m fs.toArray d' os hgl hH (by rw [hds]; simp)
    refine ⟨rfl, d'.toList, hperm, hord, ⟨some ⟨gb, 0, none⟩, cap, by rw [hdl], (fun h => by cases h), by rw [hdl]; exact r1, fun _ => ⟨gb, 0, rfl, Nat.lt_of_lt_of_le hgl hg.size, fun j hj => ?_⟩⟩, hg⟩
    have hj' : j < d'.size := by simpa using hj
    have gj : d'[j]! = d'.toList[j] := by rw [getElem!_pos d' j hj']; simp
    have k0 := (hH2 (j * 2) (by simp; omega)).1
    have k1 := (hH2 (j * 2 + 1) (by simp; omega)).1
    rw [get_flatK encF 2 d' _ (by omega)] at k0 k1
    rw [show j * 2 / 2 = j by omega, show j * 2 % 2 = 0 by omega, gj] at k0
    rw [show (j * 2 + 1) / 2 = j by omega, show (j * 2 + 1) % 2 = 1 by omega, gj] at k1
    exact ⟨k0, k1⟩
end Go.Proofs.YtabcobadglgfkaaGreatDoor

/- What files a digest is of. -/
namespace Go.Proofs.YtabcobadglgfkaaGreatDoor
open Go.RowKit

/-- Where the closures' variables lie, behind the finder. -/
def cxOf (w : World) (n1 : Nat) (v : Value) (l : List (List UInt8)) : Cx := ⟨n1, n1 + 1, n1 + 2, n1 + 3, n1 + 4, w.heap.size + 2, w.heap.size, w.heap.size + 1, n1 + 5, v, l⟩
abbrev fvOf (w : World) : Value := .func (.func 128) #[] #[pt (w.heap.size + 2), pt w.heap.size]
abbrev clo1 (n : Nat) : Value := .func (.func 93) #[] #[pt n, pt (n + 1)]
abbrev clo2 (n : Nat) : Value := .func (.func 94) #[] #[pt (n + 3), pt n, pt (n + 4), pt (n + 2)]
/-- The world with the closures' boxes. -/
abbrev boxed5 (w w1 : World) : World := ((((w1.alloc (.cells #[fvOf w] 122)).alloc (.cells #[.slice none 0 0] 22)).alloc (.cells #[clo1 w1.heap.size] 81)).alloc (.cells #[.int .i64 0] 3)).alloc (.cells #[clo2 w1.heap.size] 81)

theorem start_any (w w1 : World) (v : Value) (l : List (List UInt8)) (hE : Env w) (h1 : w1.cell? ⟨w.heap.size + 2, 0, none⟩ = some (.map (some (w.heap.size + 1)))) (h2 : w1.cell? ⟨w.heap.size, 0, none⟩ = some v)
    (h3 : ∀ hf : Fair l, w1.ownsMap Tryz.prog 9 (plainElem (H := Value) Tryz.prog 3) (w.heap.size + 1) l.length (tally (upto (item l hf) l.length))) (h4 : Sl w.heap.size w v (l.map vstr)) (ho : Old w w1) :
    cI (cxOf w w1.heap.size v l) (0, []) (boxed5 w w1) ∧ Ctx (cxOf w w1.heap.size v l) (boxed5 w w1) := by
  have hsz : (boxed5 w w1).heap.size = w1.heap.size + 5 := by simp
  have hO : Old w1 (boxed5 w w1) := ((((Old.alloc w1 _).trans (Old.alloc _ _)).trans (Old.alloc _ _)).trans (Old.alloc _ _)).trans (Old.alloc _ _)
  have b6 := ((((Blk.new w1 #[fvOf w] 122).alloc (.cells #[.slice none 0 0] 22)).alloc (.cells #[clo1 w1.heap.size] 81)).alloc (.cells #[.int .i64 0] 3)).alloc (.cells #[clo2 w1.heap.size] 81)
  have b7 := (((Blk.new (w1.alloc (.cells #[fvOf w] 122)) #[.slice none 0 0] 22).alloc (.cells #[clo1 w1.heap.size] 81)).alloc (.cells #[.int .i64 0] 3)).alloc (.cells #[clo2 w1.heap.size] 81)
  have b8 := ((Blk.new ((w1.alloc (.cells #[fvOf w] 122)).alloc (.cells #[.slice none 0 0] 22)) #[clo1 w1.heap.size] 81).alloc (.cells #[.int .i64 0] 3)).alloc (.cells #[clo2 w1.heap.size] 81)
  have b9 := (Blk.new (((w1.alloc (.cells #[fvOf w] 122)).alloc (.cells #[.slice none 0 0] 22)).alloc (.cells #[clo1 w1.heap.size] 81)) #[.int .i64 0] 3).alloc (.cells #[clo2 w1.heap.size] 81)
  have b10 := Blk.new ((((w1.alloc (.cells #[fvOf w] 122)).alloc (.cells #[.slice none 0 0] 22)).alloc (.cells #[clo1 w1.heap.size] 81)).alloc (.cells #[.int .i64 0] 3)) #[clo2 w1.heap.size] 81
  simp only [World.size_alloc] at b7 b8 b9 b10
  have hs := ho.size
  have g : ∀ k, (k = 2 ∨ k = 0 ∨ k = 1 ∨ k = 5) → k < w.heap.size := by
    rintro k (rfl | rfl | rfl | rfl)
    · obtain ⟨m, hm⟩ := hE.mx
      exact World.block_lt_of_cell? _ _ hm
    · exact var_lt num_initial hE.tabs.1
    · exact var_lt num_orders hE.tabs.2
    · exact var_lt tab_num hE.tab
  have hst : CSt (cxOf w w1.heap.size v l) (0, []) (boxed5 w w1) (.slice none 0 0) :=
    ⟨b7, Own.nil _ _, b9, by show w1.heap.size + 1 < w1.heap.size + 5; omega, by show w1.heap.size + 3 < w1.heap.size + 5; omega, by show w1.heap.size + 1 ≠ w1.heap.size + 3; omega, by rw [hsz]; exact Nat.le_refl _, by simp, by simp, (fun f hf => by cases hf),
      fun k hk => by have := g k hk; show k < w1.heap.size + 1; omega, fun k hk => by have := g k hk; show k < w1.heap.size + 3; omega⟩
  have sf : ∀ b, b < w1.heap.size + 5 → b ≠ w1.heap.size + 1 → b ≠ w1.heap.size + 3 → Safe (cFoot (cxOf w w1.heap.size v l)) (boxed5 w w1) b := fun b hb h7 h9 => by
    refine ⟨by rw [hsz]; exact hb, fun hx => ?_⟩
    rcases hst.foot.1 hx with e | e | e
    · exact h7 e
    · exact h9 e
    · cases e
  have l1 := World.block_lt_of_cell? _ _ h1
  have l2 := World.block_lt_of_cell? _ _ h2
  simp only at l1 l2
  refine ⟨⟨_, hst⟩, ⟨b6.cellN 0 rfl, b8.cellN 0 rfl, b10.cellN 0 rfl, (hO.cell (p := ⟨w.heap.size + 2, 0, none⟩) l1).trans h1, (hO.cell (p := ⟨w.heap.size, 0, none⟩) l2).trans h2, fun hf => ?_, ?_, sf _ (by show w1.heap.size < _; omega) (by show w1.heap.size ≠ _; omega) (by show w1.heap.size ≠ _; omega),
    sf _ (by show w1.heap.size + 2 < _; omega) (by show w1.heap.size + 2 ≠ _; omega) (by show w1.heap.size + 2 ≠ _; omega), sf _ (by show w1.heap.size + 4 < _; omega) (by show w1.heap.size + 4 ≠ _; omega) (by show w1.heap.size + 4 ≠ _; omega),
    sf _ (by show w.heap.size + 2 < _; omega) (by show w.heap.size + 2 ≠ _; omega) (by show w.heap.size + 2 ≠ _; omega), sf _ (by show w.heap.size < _; omega) (by show w.heap.size ≠ _; omega) (by show w.heap.size ≠ _; omega),
    sf _ (by show w.heap.size + 1 < _; omega) (by show w.heap.size + 1 ≠ _; omega) (by show w.heap.size + 1 ≠ _; omega), fun hne b hb => ?_, (hE.old ho).old hO⟩⟩
  · exact (h3 hf).kept (grown_old hO) (by simp)
  · exact (h4.below (ho.trans hO)).mono (Nat.le_trans hs hO.size)
  · obtain ⟨p, cap, hv, _, hx⟩ := h4
    have hne' : l ≠ [] := hne
    obtain ⟨b', off, hp, hlt, _⟩ := hx (by simpa using hne')
    have hv' : v.ownBlock = some b' := by rw [hv, hp]; rfl
    have hb2 : v.ownBlock = some b := hb
    rw [hv'] at hb2
    injection hb2 with e
    subst e
    exact sf b' (by omega) (by omega) (by omega)

set_option maxHeartbeats 2000000 in
set_option maxRecDepth 100000 in
theorem collect_any (root : List UInt8) (a : Option Addr) (cap : Nat) (l : List (List UInt8)) (hf : Fair l) (hr : root.length ≤ maxLen) (w : World) (hE : Env w) (hv : Sl w.heap.size w (.slice a l.length cap) (l.map vstr)) :
    Calls Tryz.prog 56 #[S root, .slice a l.length cap] w fun e w' => ∃ u, e = .returned (.tuple #[u, .int .i64 (M.collect l root).2]) ∧ Own w.heap.size w' u (M.collect l root).1 ∧ (M.collect l root).1.length ≤ 32 ∧ (∀ f ∈ (M.collect l root).1, f.1.length ≤ 200000 ∧ f.2.length ≤ 1000000) ∧ Old w w' := by
  have HF := Lib.hid (finder_any a l.length cap l hf w hE.tabs hv)
  have HE := Lib.hid hE
  have HSL := Lib.hid hv
  have e2 := enter_collect2
  clear hE hv
  have hx : M.collect l root = ((M.goD l 1001 [] root (0, [])).1.2, (M.goD l 1001 [] root (0, [])).2) := rfl
  rw [hx]
  clear hx
  go_enter Tryz.func56, Tryz.ntmps56
  go_wp2_with fail
  refine HF.out.mono ?_
  rintro e w1 ⟨rfl, hc1, hc2, hown, ho1⟩
  obtain ⟨hI, hC⟩ := start_any w w1 (.slice a l.length cap) l HE.out hc1 hc2 (fun _ => hown) HSL.out ho1
  have HR := Lib.hid (addDir_any (cxOf w w1.heap.size (.slice a l.length cap) l) hf 1001 [] root (0, []) _ (by omega) (by simp) hr hI hC)
  have HO1 := Lib.hid ho1
  have HI := Lib.hid hI
  clear hI hC hc1 hc2 hown ho1
  change Hid (Calls _ _ #[S [], S root, pt (w1.heap.size + 3), pt w1.heap.size, pt (w1.heap.size + 4), pt (w1.heap.size + 2)] (boxed5 w w1) (CPost (cxOf w w1.heap.size (.slice a l.length cap) l) (M.goD l 1001 [] root (0, [])) (boxed5 w w1))) at HR
  go_wp2_with (fail)
  refine HR.out.mono ?_
  rintro e w6 ⟨rfl, ⟨vv, hst⟩, hv6⟩
  have h7 : w6.cell? ⟨w1.heap.size + 1, 0, none⟩ = some vv := hst.box.cellN 0 rfl
  obtain ⟨q, cq, rfl⟩ := hst.row.fl.len
  have HST := Lib.hid hst
  have HOLD := Lib.hid (show Old w w6 from by
    have hO : Old w1 (boxed5 w w1) := ((((Old.alloc w1 _).trans (Old.alloc _ _)).trans (Old.alloc _ _)).trans (Old.alloc _ _)).trans (Old.alloc _ _)
    have h1 := HO1.out.trans hO
    refine Below.trans h1 (hv6.keep.below h1.size fun k hk hx => ?_)
    have hs := HO1.out.size
    rcases hx with hx | hx
    · obtain ⟨v0, h0⟩ := HI.out
      rcases h0.foot.1 hx with e | e | e
      · have e : k = w1.heap.size + 1 := e
        omega
      · have e : k = w1.heap.size + 3 := e
        omega
      · have := row_from h0.row k e
        have : w1.heap.size + 5 ≤ k := this
        omega
    · have := h1.size
      omega)
  have hmono : w.heap.size ≤ (cxOf w w1.heap.size (.slice a l.length cap) l).base := by
    have := HO1.out.size
    show w.heap.size ≤ w1.heap.size + 5
    omega
  clear hst hv6
  go_wp2
  go_ret2
  exact ⟨_, rfl, HST.out.row.mono hmono, HST.out.few, HST.out.small, HOLD.out⟩

theorem check_nil_path {l : List M.Fi} (h : M.check l = 0) : ∀ f ∈ l, f.1.length ≤ 48 ∧ f.2.length ≤ 2048 := by
  have h1 : M.firstErr l = 0 := by
    unfold M.check at h
    split at h
    · rename_i hx; exact absurd h hx
    · rename_i hx; exact Classical.byContradiction hx
  intro f hf
  have := small_of_chk (chk_of_first.1 h1 f hf)
  exact ⟨this.1, this.2.1⟩
/-- What Files leaves. -/
def FilesPost (l : List (List UInt8)) (root : List UInt8) (w : World) (e : Ending) (w' : World) : Prop :=
  ∃ u, e = .returned (.tuple #[u, .int .i64 (M.files l root).2]) ∧ Fl w' u (M.files l root).1 ∧ (M.files l root).1.length ≤ 32 ∧ Old w w'

set_option maxHeartbeats 2000000 in
set_option maxRecDepth 100000 in
theorem files_any (root : List UInt8) (a : Option Addr) (cap : Nat) (l : List (List UInt8)) (hf : Fair l) (hr : root.length ≤ maxLen) (w : World) (hE : Env w) (hv : Sl w.heap.size w (.slice a l.length cap) (l.map vstr)) :
    Calls Tryz.prog 27 #[S root, .slice a l.length cap] w (FilesPost l root w) := by
  have HC := Lib.hid (collect_any root a cap l hf hr w hE hv)
  have hap := collect_apart l root
  have HM := Lib.hid hE.mx
  unfold FilesPost M.files
  clear hE hv
  generalize M.collect l root = X at *
  obtain ⟨fs, er⟩ := X
  simp only at HC hap
  by_cases her : er = 0
  · subst her
    simp only [ne_eq, not_true_eq_false, if_false]
    have HK := Lib.hid (fun (w1 w2 : World) (q : Option Addr) (n c : Nat) (L : List M.Fi) (h0 : Old w w1) (hl : L.length ≤ 32) (hs : ∀ f ∈ L, f.1.length ≤ 200000 ∧ f.2.length ≤ 1000000) (h : Fl w2 (.slice q n c) L) (ho : Old w w2) => check_wide (.slice q n c) L w2 h (by unfold maxLen; omega) (fun f hf => by have := hs f hf; unfold maxLen; omega) (HM.out.old ho))
    by_cases hck : M.check (M.sortP fs) = 0
    · rw [hck]
      simp only [not_true_eq_false, if_false]
      go_enter Tryz.func27, Tryz.ntmps27
      go_wp2_with fail
      refine HC.out.mono ?_
      rintro e w1 ⟨u, rfl, hown, hlen, hsm, ho1⟩
      obtain ⟨q, cq, rfl⟩ := hown.fl.len
      have HS := Lib.hid (sortF_any hown (by omega))
      go_wp2_with fail
      refine HS.out.mono ?_
      rintro e w2 ⟨rfl, L, hp, hord, hfl, hg⟩
      obtain rfl := sortP_eq hap hp hord
      have ho2 : Old w w2 := Keep.old ((Keep.of_old (S := fun _ => False) ho1).grown hg (fun k hk => Or.inl (row_from hown k hk))) (fun _ _ h => h)
      have hpl := hp.length_eq
      have hkk := check_wide _ _ w2 hfl (by unfold maxLen; omega) (fun f hf => by have := hsm f (hp.mem_iff.1 hf); unfold maxLen; omega) (HM.out.old ho2)
      rw [hck] at hkk
      have HKK := Lib.hid hkk
      have HFL := Lib.hid hfl
      have HO2 := Lib.hid ho2
      clear hkk hfl ho2 hg hown
      go_wp2_with ((with_reducible refine HKK.out.mono ?_); rintro e w3 ⟨rfl, ho3⟩)
      go_ret2
      exact ⟨_, rfl, HFL.out.old ho3, by omega, HO2.out.trans ho3⟩
    · rw [if_pos hck]
      generalize hce : M.check (M.sortP fs) = ce at *
      go_enter Tryz.func27, Tryz.ntmps27
      go_wp2_with fail
      refine HC.out.mono ?_
      rintro e w1 ⟨u, rfl, hown, hlen, hsm, ho1⟩
      obtain ⟨q, cq, rfl⟩ := hown.fl.len
      have HS := Lib.hid (sortF_any hown (by omega))
      go_wp2_with fail
      refine HS.out.mono ?_
      rintro e w2 ⟨rfl, L, hp, hord, hfl, hg⟩
      obtain rfl := sortP_eq hap hp hord
      have ho2 : Old w w2 := Keep.old ((Keep.of_old (S := fun _ => False) ho1).grown hg (fun k hk => Or.inl (row_from hown k hk))) (fun _ _ h => h)
      have hpl := hp.length_eq
      have hkk := check_wide _ _ w2 hfl (by unfold maxLen; omega) (fun f hf => by have := hsm f (hp.mem_iff.1 hf); unfold maxLen; omega) (HM.out.old ho2)
      rw [hce] at hkk
      have HKK := Lib.hid hkk
      have HO2 := Lib.hid ho2
      clear hkk hfl ho2 hg hown hce
      go_wp2_with ((with_reducible refine HKK.out.mono ?_); rintro e w3 ⟨rfl, ho3⟩)
      go_ret2
      exact ⟨_, rfl, Fl.nil _, by simp, HO2.out.trans ho3⟩
  · rw [if_pos her]
    go_enter Tryz.func27, Tryz.ntmps27
    go_wp2_with fail
    refine HC.out.mono ?_
    rintro e w1 ⟨u, rfl, hown, hlen, hsm, ho1⟩
    obtain ⟨q, cq, rfl⟩ := hown.fl.len
    clear hown
    go_wp2
    go_ret2
    exact ⟨_, rfl, Fl.nil _, by simp, ho1⟩
end Go.Proofs.YtabcobadglgfkaaGreatDoor

/- The chapter's examples. -/
namespace Go.Proofs.YtabcobadglgfkaaGreatDoor
open Go.RowKit

def exF : List M.Fi := [([97, 47, 98], []), ([99], [])]
theorem exF_names : M.names exF = [[97], [99]] := by decide
theorem exF_dir : M.dir exF = [M.entry exF [97], M.entry exF [99]] := by rw [M.dir_eq, exF_names]; rfl
theorem exF_a : (M.entry exF [97]).1 = [97] ∧ (M.entry exF [97]).2.1 = true := by
  have h : M.get exF [97] = ([], false) := by decide
  rw [entry_dir h]
  exact ⟨rfl, rfl⟩
theorem exF_c : (M.entry exF [99]).1 = [99] ∧ (M.entry exF [99]).2.1 = false := by
  have h : M.get exF [99] = ([], true) := by decide
  rw [entry_file h]
  exact ⟨rfl, rfl⟩
theorem ex_encode (d : List UInt8) : M.encode [([97], false, d), ([97], false, d)] = ([], 11) := by
  refine right_no (k := 1) (by simp) ?_
  rw [rightAt_eq (by simp)]
  simp [M.bl_irrefl]
theorem ex_files (d : List UInt8) : M.files [] d = ([], 17) := by
  have h : M.collect [] d = ([], 17) := by simp [M.collect, M.goD, M.find]
  unfold M.files
  rw [h]
  simp
theorem tame_exF : Tame exF := by
  refine ⟨by simp [exF], fun f hf => ?_⟩
  simp only [exF, List.mem_cons, List.not_mem_nil, or_false] at hf
  rcases hf with rfl | rfl <;> simp
def zeros : List UInt8 := List.replicate 32 0

theorem made32 : (madeCells (Value.int IntKind.u8 0).cells ((32 : Int).toNat * 1)).toList.take (zeros.length * 1) = Lib.byteCells zeros := by
  simp [madeCells, zeros, Lib.byteCells, Value.cells]
  rfl

set_option maxHeartbeats 4000000 in
set_option maxRecDepth 100000 in
theorem awake_any (w : World) (hE : Env w) : Calls Tryz.prog 12 #[] w fun e w' => e = .returned (.bool true) ∧ Old w w' := by
  obtain ⟨i0, hi, hz0, hz1, hz2⟩ := info_parts Bl.infoByte
  have hmk := run_make (P := Tryz.prog) (w := w) 55 5 i0 (.int .u8 0) Tryz.underlying55 hi hz0 .i64 .i64 32 32 (by omega) (by omega) (by rw [hz2]; omega) (by omega)
  rw [hz1] at hmk
  have hrow : (w.alloc (.cells (madeCells (Value.int IntKind.u8 0).cells ((32 : Int).toNat * 1)) 5)).ownsRow w.heap.size 5 1 (.slice (some ⟨w.heap.size, 0, none⟩) 32 32) zeros.length (Lib.byteCells zeros) :=
    ⟨rfl, Or.inr ⟨w.heap.size, 32, _, rfl, Nat.le_refl _, World.alloc_heap_new w _, Nat.le_refl _, by unfold maxLen; omega, by simp [madeCells], made32⟩⟩
  have hconv := conv_row _ _ _ zeros hrow
  have hE1 := hE.old (Old.alloc w (.cells (madeCells (Value.int IntKind.u8 0).cells ((32 : Int).toNat * 1)) 5))
  have HO1 := Lib.hid (Old.alloc w (.cells (madeCells (Value.int IntKind.u8 0).cells ((32 : Int).toNat * 1)) 5))
  generalize hw1 : w.alloc (.cells (madeCells (Value.int IntKind.u8 0).cells ((32 : Int).toNat * 1)) 5) = w1 at *
  have hfl : Fl (w1.alloc (.cells #[S [97, 47, 98], S [], S [99], S []] 54)) (.slice (some ⟨w1.heap.size, 0, none⟩) 2 2) exF :=
    ⟨_, 2, rfl, (fun h => by cases h), Nat.le_refl _, fun _ => ⟨w1.heap.size, 0, rfl, by simp, fun j hj => by
      have hb := Blk.new w1 #[S [97, 47, 98], S [], S [99], S []] 54
      match j, hj with
      | 0, _ => exact ⟨hb.cellN 0 rfl, hb.cellN 1 rfl⟩
      | 1, _ => exact ⟨hb.cellN 2 rfl, hb.cellN 3 rfl⟩⟩⟩
  have hd := dir_any exF [] _ _ (hE1.old (Old.alloc _ _)) hfl tame_exF (by simp)
  rw [show M.dirAt exF [] = M.dir exF from rfl, exF_dir] at hd
  have HD := Lib.hid hd
  have HE1 := Lib.hid hE1
  obtain ⟨ea1, ea2⟩ := exF_a
  obtain ⟨ec1, ec2⟩ := exF_c
  generalize M.entry exF [97] = xa at *
  generalize M.entry exF [99] = xc at *
  clear hd hfl hE hE1 hrow
  go_enter Tryz.func12, Tryz.ntmps12
  go_wp2_with fail
  refine HD.out.mono ?_
  rintro e w3 ⟨u, rfl, hel, ho3⟩
  obtain ⟨pu, cu, rfl⟩ := hel.len
  obtain ⟨b, off, rfl, hb, hc⟩ := hel.at (by simp)
  obtain ⟨p0, p1, _⟩ := hc 0 (by simp)
  obtain ⟨q0, q1, _⟩ := hc 1 (by simp)
  simp only [List.getElem_cons_zero, List.getElem_cons_succ, ea1, ea2, ec1, ec2] at p0 p1 q0 q1
  have HO3 := Lib.hid (HO1.out.trans ((Old.alloc w1 _).trans ho3))
  have HE3 := Lib.hid (HE1.out.old ((Old.alloc w1 _).trans ho3))
  have hel2 : El (w3.alloc (.cells #[S [97], .bool false, S zeros, S [97], .bool false, S zeros] 33)) (.slice (some ⟨w3.heap.size, 0, none⟩) 2 2) [([97], false, zeros), ([97], false, zeros)] :=
    ⟨_, 2, rfl, (fun h => by cases h), Nat.le_refl _, fun _ => ⟨w3.heap.size, 0, rfl, by simp, fun j hj => by
      have hb := Blk.new w3 #[S [97], .bool false, S zeros, S [97], .bool false, S zeros] 33
      match j, hj with
      | 0, _ => exact ⟨hb.cellN 0 rfl, hb.cellN 1 rfl, hb.cellN 2 rfl⟩
      | 1, _ => exact ⟨hb.cellN 3 rfl, hb.cellN 4 rfl, hb.cellN 5 rfl⟩⟩⟩
  have hen := encode_any _ _ _ (HE3.out.old (Old.alloc w3 _)).tab (HE3.out.old (Old.alloc w3 _)).mx hel2 (by simp) (fun e he => by
    simp only [List.mem_cons, List.not_mem_nil, or_false, or_self] at he
    subst he
    unfold maxLen
    simp [zeros])
  rw [ex_encode] at hen
  have HEN := Lib.hid hen
  have HFI := Lib.hid (fun (w5 : World) (h : Old (w3.alloc (.cells #[S [97], .bool false, S zeros, S [97], .bool false, S zeros] 33)) w5) => show Calls Tryz.prog 27 #[S zeros, .slice none 0 0] w5 fun e w' => ∃ u, e = .returned (.tuple #[u, .int .i64 17]) ∧ Old w5 w' from
    (files_any zeros none 0 [] ⟨by simp, fun b hb => by cases hb⟩ (by simp [zeros, maxLen]) w5 ((HE3.out.old (Old.alloc w3 _)).old h) ⟨none, 0, rfl, fun _ => rfl, fun h => absurd rfl h⟩).mono fun e w' ⟨u, he, _, _, ho⟩ => ⟨u, by rw [he, ex_files], ho⟩)
  clear hel hel2 hen hc ho3
  go_wp2_with fail
  refine HEN.out.mono ?_
  rintro e w5 ⟨rfl, ho5⟩
  have HO5 := Lib.hid ho5
  have HOX := Lib.hid ((Old.alloc w3 (.cells #[S [97], .bool false, S zeros, S [97], .bool false, S zeros] 33)).trans ho5)
  clear ho5
  go_wp2_with fail
  refine (HFI.out _ HO5.out).mono ?_
  rintro e w6 ⟨uf, rfl, ho6⟩
  have HOZ := Lib.hid (HOX.out.trans ho6)
  have r0 := (HOZ.out.cell (p := ⟨b, off + 0 * 3, none⟩) hb).trans p0
  have r1 := (HOZ.out.cell (p := ⟨b, off + 0 * 3 + 1, none⟩) hb).trans p1
  have r2 := (HOZ.out.cell (p := ⟨b, off + 1 * 3, none⟩) hb).trans q0
  have r3 := (HOZ.out.cell (p := ⟨b, off + 1 * 3 + 1, none⟩) hb).trans q1
  simp only [Nat.zero_mul, Nat.one_mul, Nat.add_zero] at r0 r1 r2 r3
  clear p0 p1 q0 q1 HFI HEN
  go_wp2
  go_ret
  exact ⟨rfl, HO3.out.trans HOZ.out⟩
end Go.Proofs.YtabcobadglgfkaaGreatDoor

/- Valid files are tame, and their entries may be. -/
namespace Go.Proofs.YtabcobadglgfkaaGreatDoor
open Go.RowKit

theorem tame_valid {fs : List M.Fi} (h : M.check fs = 0) : Tame fs := by
  have hv := valid_iff.1 h
  refine ⟨by have := hv.few; omega, fun f hf => ?_⟩
  obtain ⟨h1, h2⟩ := chk_iff.1 (hv.chk f hf)
  have := (path_ok.1 h1).1
  omega
theorem head_cases (s : List UInt8) : M.head1 s = s ∨ ∃ r, s = M.head1 s ++ 47 :: r := by
  rcases M.index47 s with ⟨_, h⟩ | ⟨i, _, _, h3, h4⟩
  · exact Or.inl (M.head1_all h)
  · right
    refine ⟨s.drop (i + 1), ?_⟩
    have e : M.head1 s = s.take i := by
      conv => lhs; rw [h4]
      exact M.head1_at _ h3
    rw [e]
    exact h4
theorem head_path {s : List UInt8} (h : M.path s = 0) : M.path (M.head1 s) = 0 := by
  rcases head_cases s with e | ⟨r, e⟩
  · rw [e]; exact h
  · have hne := M.head1_ne (p := s)
    generalize M.head1 s = a at *
    subst e
    obtain ⟨h1, h2⟩ := path_ok.1 h
    rw [M.scan_join, Bool.and_eq_true] at h2
    exact path_ok.2 ⟨by simp at h1; omega, h2.1⟩
theorem right_dir {fs : List M.Fi} (h : ∀ f ∈ fs, M.path f.1 = 0) : M.right (M.dir fs) = true := by
  rw [M.right_iff]
  intro i hi
  have hlen : (M.dir fs).length = (M.names fs).length := by rw [M.dir_eq, List.length_map]
  have hat : ∀ j (hj : j < (M.dir fs).length), (M.dir fs)[j].1 = (M.names fs)[j]'(by omega) ∧ (M.dir fs)[j].2.2.length = 32 := by
    intro j hj
    have e : (M.dir fs)[j] = M.entry fs ((M.names fs)[j]'(by omega)) := by simp [M.dir_eq]
    rw [e]
    exact entry_neat fs _
  obtain ⟨h1, h2⟩ := hat i hi
  have hmem : (M.names fs)[i]'(by omega) ∈ M.names fs := List.getElem_mem _
  rw [rightAt_eq hi, h1, h2]
  have hp : isN ((M.names fs)[i]'(by omega)) = true := by
    have hne := M.names_ne hmem
    obtain ⟨f, hf, e⟩ := M.mem_names.1 hmem
    unfold isN
    rw [← e, head_path (h f hf), e]
    have : ¬ 47 ∈ (M.names fs)[i]'(by omega) := fun hx => hne 47 hx rfl
    simp [this]
  rw [hp]
  by_cases h0 : i = 0
  · simp [h0]
  · have hb : M.bl ((M.names fs)[i - 1]'(by omega)) ((M.names fs)[i]'(by omega)) = true := List.pairwise_iff_getElem.1 (M.rising_setOf _) (i - 1) i _ _ (by omega)
    rw [(hat (i - 1) (by omega)).1, hb]
    simp
theorem encode_dir {fs : List M.Fi} (h : M.check fs = 0) : M.encode (M.dir fs) = (M.bytes (M.dir fs), 0) :=
  right_yes (right_dir fun f hf => (chk_iff.1 ((valid_iff.1 h).chk f hf)).1)
end Go.Proofs.YtabcobadglgfkaaGreatDoor
