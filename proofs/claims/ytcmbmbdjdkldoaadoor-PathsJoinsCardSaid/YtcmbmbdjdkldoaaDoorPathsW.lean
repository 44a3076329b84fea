/- The document's files with one more. -/
import Derived.Test.YtcmbmbdjdkldoaaDoorPathsL
import Derived.Test.YtcmbmbdjdkldoaaDoorPathsV
import Derived.Outline
import Derived.Deep.CutBlock
import Derived.Deep.DeepCutAuto
namespace Go.Proofs.YtcmbmbdjdkldoaaDoor
open Go.RowKit

/-- The first file at a path, among the first k: none yet, or its place. -/
def First (fs : List M.Fi) (s : List UInt8) (k n : Nat) (sm : Bool) : Prop :=
  (sm = false ∧ n = fs.length ∧ ∀ j (hj : j < fs.length), j < k → (fs[j].1 == s) = false) ∨
  (sm = true ∧ n < k ∧ ∃ hn : n < fs.length, (fs[n].1 == s) = true ∧ ∀ j (hj : j < fs.length), j < n → (fs[j].1 == s) = false)
theorem Fl.one (w : World) (f : M.Fi) : Fl (w.alloc (.cells #[S f.1, S f.2] 36)) (.slice (some ⟨w.heap.size, 0, none⟩) 1 1) [f] := by
  refine ⟨_, 1, rfl, (fun h => by cases h), Nat.le_refl _, fun _ => ⟨w.heap.size, 0, rfl, by simp, fun j hj => ?_⟩⟩
  have hb := Blk.new w #[S f.1, S f.2] 36
  obtain rfl : j = 0 := by simpa using hj
  exact ⟨hb.cellN 0 rfl, hb.cellN 1 rfl⟩
theorem First.start (fs : List M.Fi) (s : List UInt8) : First fs s 0 fs.length false := Or.inl ⟨rfl, rfl, fun _ _ h => absurd h (Nat.not_lt_zero _)⟩
/-- Where the new file comes. -/
def Place (fs : List M.Fi) (f : M.Fi) (m : Nat) (sm : Bool) : Prop :=
  (sm = true ∧ m < fs.length ∧ M.put fs f = fs.take m ++ [f] ++ fs.drop (m + 1)) ∨ (sm = false ∧ m ≤ fs.length ∧ M.put fs f = fs.take m ++ [f] ++ fs.drop m)
theorem First.place {fs : List M.Fi} {f : M.Fi} {k n : Nat} (h : First fs f.1 k n true) : Place fs f n true := by
  rcases h with ⟨h, _⟩ | ⟨_, _, hn, he, hno⟩
  · cases h
  · refine Or.inl ⟨rfl, hn, ?_⟩
    unfold M.put M.has
    rw [if_pos (List.any_eq_true.2 ⟨_, List.getElem_mem hn, he⟩), repl_set fs f n hn he hno, List.set_eq_take_append_cons_drop, if_pos hn]
    simp
theorem First.none {fs : List M.Fi} {f : M.Fi} {n : Nat} (h : First fs f.1 fs.length n false) : n = fs.length ∧ (∀ g ∈ fs, (g.1 == f.1) = false) ∧ M.put fs f = M.ins fs f := by
  rcases h with ⟨_, h2, h3⟩ | ⟨h, _⟩
  · have hno : ∀ g ∈ fs, (g.1 == f.1) = false := fun g hg => by
      obtain ⟨j, hj, rfl⟩ := List.getElem_of_mem hg
      exact h3 j hj hj
    refine ⟨h2, hno, ?_⟩
    unfold M.put M.has
    rw [if_neg]
    intro hc
    obtain ⟨g, hg, hc⟩ := List.any_eq_true.1 hc
    rw [hno g hg] at hc
    cases hc
  · cases h
theorem First.found {fs : List M.Fi} {s : List UInt8} {k n : Nat} (h : First fs s k n true) : First fs s (k + 1) n true := by
  rcases h with ⟨h, _⟩ | ⟨h1, h2, h3⟩
  · cases h
  · exact Or.inr ⟨h1, by omega, h3⟩
theorem First.hit {fs : List M.Fi} {s : List UInt8} {k n : Nat} (h : First fs s k n false) (hk : k < fs.length) (he : (fs[k].1 == s) = true) : First fs s (k + 1) k true := by
  rcases h with ⟨_, _, h3⟩ | ⟨h, _⟩
  · exact Or.inr ⟨rfl, by omega, hk, he, h3⟩
  · cases h
theorem First.miss {fs : List M.Fi} {s : List UInt8} {k n : Nat} (h : First fs s k n false) (hk : k < fs.length) (he : (fs[k].1 == s) = false) : First fs s (k + 1) n false := by
  rcases h with ⟨_, h2, h3⟩ | ⟨h, _⟩
  · refine Or.inl ⟨rfl, h2, fun j hj hjk => ?_⟩
    by_cases hj2 : j = k
    · subst hj2; exact he
    · exact h3 j hj (by omega)
  · cases h

set_option maxHeartbeats 4000000 in
set_option maxRecDepth 100000 in
theorem rwith_any (v : Value) (fs : List M.Fi) (f : M.Fi) (w : World) (h : Fl w v fs) (hf : Alls fs) (hs : Small f) :
    Calls Tryd.prog 33 #[v, fv f] w fun e w' => ∃ u, e = .returned (.tuple #[u, .int .i64 (M.withF fs f).2]) ∧ Own w.heap.size w' u (M.withF fs f).1 ∧ Old w w' := by
  obtain ⟨w1, ew1, hb1, ho1⟩ : ∃ w1, w.alloc (.cells #[S f.1, S f.2] 36) = w1 ∧ Blk w1 w.heap.size #[S f.1, S f.2] 36 ∧ Old w w1 := ⟨_, rfl, Blk.new w _ _, Old.alloc w _⟩
  have HW := Lib.hid (show M.withF fs f = if M.chk1 f ≠ 0 then ([], M.chk1 f) else if M.kin fs f.1 then ([], 16) else if (M.put fs f).length > 32 then ([], 15) else (M.put fs f, 0) from rfl)
  have HCK := Lib.hid (show M.chk1 f = if M.path f.1 ≠ 0 then 13 else if f.2.length > 2048 then 15 else 0 from rfl)
  have G1 := Lib.hid (rpath_any f.1 (by have := hs.1; unfold maxLen; omega) w1)
  have HB := Lib.hid (fun (x : List UInt8) (hx : x.length ≤ 1099511627776) w2 => rbelow_any f.1 x hs.1 hx w2)
  have HB' := Lib.hid (fun (x : List UInt8) (hx : x.length ≤ 1099511627776) w2 => rbelow_any x f.1 hx hs.1 w2)
  have HF := Lib.hid hf.2
  have hlen := hf.1
  have H := Lib.hid (h.old ho1)
  have HB1 := Lib.hid hb1
  have HO1 := Lib.hid ho1
  have c0 := hb1.cellN 0 rfl
  have c1 := hb1.cellN 1 rfl
  have hpr : M.path f.1 = 0 ∨ M.path f.1 = 13 := by unfold M.path; split <;> simp
  have hs2 := hs.2
  obtain ⟨p, cap, rfl⟩ := h.len
  clear h hf hs hb1 ho1
  obtain ⟨fp, fd⟩ := f
  simp only at *
  have hdl := size_mk fd
  show Calls Tryd.prog 33 #[.slice p fs.length cap, .agg #[.string ⟨⟨fp⟩⟩, .string ⟨⟨fd⟩⟩]] w _
  generalize M.path fp = e1 at *
  rcases hpr with hp | hp
  · subst hp
    by_cases hbig : fd.length > 2048
    · rw [if_neg (by decide), if_pos hbig] at HCK
      rw [HCK.out, if_pos (by decide)] at HW
      rw [HW.out]
      go_enter Tryd.func33, Tryd.ntmps33
      go_wp2_with ((with_reducible refine G1.out.mono ?_); rintro e w2 ⟨rfl, hw⟩; obtain rfl := hw.symm)
      go_ret2
      exact ⟨_, rfl, Own.nil _ _, HO1.out⟩
    · rw [if_neg (by decide), if_neg hbig] at HCK
      rw [HCK.out, if_neg (by decide)] at HW
      go_enter Tryd.func33, Tryd.ntmps33
      go_wp2_with ((with_reducible refine G1.out.mono ?_); rintro e w2 ⟨rfl, hw⟩; obtain rfl := hw.symm)
      go_loopw [6, 7, 8] (fun o q i wr => ∃ (k n nd : Nat) (sm : Bool), k ≤ fs.length ∧ i = .int .i64 k ∧ o = .int .i64 n ∧ q = .bool sm ∧ wr = w1.drewN nd ∧ Hid (First fs fp k n sm) ∧ Hid (∀ j (hj : j < fs.length), j < k → M.below fp fs[j].1 = false ∧ M.below fs[j].1 fp = false)) (fun _ _ i _ => fs.length - (intOf i).toNat)
      case atStart => exact ⟨0, fs.length, 0, false, Nat.zero_le _, rfl, rfl, rfl, rfl, Lib.hid (First.start fs fp), Lib.hid (fun j _ h => absurd h (Nat.not_lt_zero _))⟩
      case round =>
        obtain ⟨k, n, nd, sm, hk, rfl, rfl, rfl, rfl, hfirst, hkin⟩ := hrel
        by_cases hlt : k < fs.length
        · obtain ⟨b, off, rfl, hb, hc⟩ := (H.out.drewN nd).at (by intro h; rw [h] at hlt; exact absurd hlt (Nat.not_lt_zero _))
          obtain ⟨g0, g1⟩ := hc k hlt
          have q0 : (w1.drewN nd).cell? ⟨w.heap.size, 0, none⟩ = some (S fp) := c0
          have hxm := (HF.out fs[k] (List.getElem_mem hlt)).1
          have HX := Lib.hid (HB.out fs[k].1 hxm)
          have HX' := Lib.hid (HB'.out fs[k].1 hxm)
          have HKIN := Lib.hid (show M.below fp fs[k].1 = true ∨ M.below fs[k].1 fp = true → M.kin fs fp = true from fun h => List.any_eq_true.2 ⟨fs[k], List.getElem_mem hlt, by rcases h with h | h <;> rw [h] <;> simp⟩)
          have HNK := Lib.hid (show M.below fp fs[k].1 = false → M.below fs[k].1 fp = false → ∀ j (hj : j < fs.length), j < k + 1 → M.below fp fs[j].1 = false ∧ M.below fs[j].1 fp = false from fun h1 h2 j hj hjk => by
            by_cases he : j = k
            · subst he; exact ⟨h1, h2⟩
            · exact hkin.out j hj (by omega))
          have HHIT := Lib.hid (fun (h : First fs fp k n false) he => First.hit h hlt he)
          have HMISS := Lib.hid (fun (h : First fs fp k n false) he => First.miss h hlt he)
          clear hc hb hxm hkin
          generalize fs[k].1 = x at *
          have hb2 : ¬ ((2048 : Int) < (fd.length : Int)) := by omega
          generalize hwq : w1.drewN nd = wq at *
          have HWQ := Lib.hid hwq
          clear hwq
          generalize M.below fp x = r1 at *
          generalize M.below x fp = r2 at *
          cases r1 with
          | true =>
            have HKT := Lib.hid (HKIN.out (Or.inl (by first | trivial | rfl)))
            clear HKIN HNK HHIT HMISS
            go_wp2
            go_quiet (first | (go_at_call 43; with_reducible refine Calls.quiet_of_same (HX.out _)) | (go_at_call 43; with_reducible refine Calls.quiet_of_same (HX'.out _)))
            go_wp2
            go_ret2
            rw [HW.out, HKT.out, if_pos rfl]
            exact ⟨_, rfl, Own.nil _ _, by rw [← HWQ.out, drewN_add]; exact HO1.out.trans (Old.drewN _ _)⟩
          | false =>
            cases r2 with
            | true =>
              have HKT := Lib.hid (HKIN.out (Or.inr (by first | trivial | rfl)))
              clear HKIN HNK HHIT HMISS
              go_wp2
              go_quiet (first | (go_at_call 43; with_reducible refine Calls.quiet_of_same (HX.out _)) | (go_at_call 43; with_reducible refine Calls.quiet_of_same (HX'.out _)))
              go_wp2
              go_ret2
              rw [HW.out, HKT.out, if_pos rfl]
              exact ⟨_, rfl, Own.nil _ _, by rw [← HWQ.out, drewN_add]; exact HO1.out.trans (Old.drewN _ _)⟩
            | false =>
              have HNK2 := Lib.hid (HNK.out (by first | trivial | rfl) (by first | trivial | rfl))
              clear HKIN HNK
              cases sm with
              | true =>
                have HFI := Lib.hid hfirst.out.found
                clear hfirst HHIT HMISS
                go_wp2
                go_quiet (first | (go_at_call 43; with_reducible refine Calls.quiet_of_same (HX.out _)) | (go_at_call 43; with_reducible refine Calls.quiet_of_same (HX'.out _)))
                go_wp2
                go_quiet (fail)
                go_wp2
                go_roundw
                case rel => exact ⟨k + 1, n, _, true, by omega, by go_num, by go_num, by first | rfl | trivial, by rw [← HWQ.out, drewN_add], HFI, HNK2⟩
                case measure => simp [intOf]; omega
              | false =>
                by_cases hxe : x = fp
                · have e1 : (x == fp) = true := by rw [beq_list, decide_eq_true hxe]
                  have HFI := Lib.hid (HHIT.out hfirst.out e1)
                  clear hfirst HHIT HMISS hxe
                  go_wp2
                  go_quiet (first | (go_at_call 43; with_reducible refine Calls.quiet_of_same (HX.out _)) | (go_at_call 43; with_reducible refine Calls.quiet_of_same (HX'.out _)))
                  go_wp2
                  go_quiet (fail)
                  go_wp2
                  go_roundw
                  case rel => exact ⟨k + 1, k, _, true, by omega, by go_num, by go_num, by first | rfl | trivial, by rw [← HWQ.out, drewN_add], HFI, HNK2⟩
                  case measure => simp [intOf]; omega
                · have e1 : (x == fp) = false := by rw [beq_list, decide_eq_false hxe]
                  have HFI := Lib.hid (HMISS.out hfirst.out e1)
                  clear hfirst HHIT HMISS hxe
                  go_wp2
                  go_quiet (first | (go_at_call 43; with_reducible refine Calls.quiet_of_same (HX.out _)) | (go_at_call 43; with_reducible refine Calls.quiet_of_same (HX'.out _)))
                  go_wp2
                  go_quiet (fail)
                  go_wp2
                  go_roundw
                  case rel => exact ⟨k + 1, n, _, false, by omega, by go_num, by go_num, by first | rfl | trivial, by rw [← HWQ.out, drewN_add], HFI, HNK2⟩
                  case measure => simp [intOf]; omega
        · obtain rfl : k = fs.length := by omega
          have HKF := Lib.hid (show M.kin fs fp = false from List.any_eq_false.2 fun g hg => by
            obtain ⟨j, hj, rfl⟩ := List.getElem_of_mem hg
            have := hkin.out j hj hj
            rw [this.1, this.2]; simp)
          clear hkin
          rw [HKF.out, if_neg (by decide)] at HW
          go_upto_block 2 with (fail)
          go_cut [6] (fun o wx => ∃ m nd2 : Nat, o = .int .i64 m ∧ wx = w1.drewN nd2 ∧ Hid (Place fs (fp, fd) m sm))
          case first =>
            cases sm with
            | true =>
              have HPL := Lib.hid (First.place (f := (fp, fd)) hfirst.out)
              clear hfirst
              go_wp2
              go_loopw [6, 9] (fun o i wr => o = .int .i64 n ∧ i = .int .i64 0 ∧ wr = w1.drewN nd) (fun _ _ _ => 0)
              case atStart => exact ⟨rfl, rfl, rfl⟩
              case round =>
                obtain ⟨rfl, rfl, rfl⟩ := hrel
                go_wp2
                all_goals
                  go_meet
                  case rel => exact ⟨n, nd, rfl, rfl, HPL⟩
            | false =>
              obtain ⟨hn, hno, hput⟩ := First.none (f := (fp, fd)) hfirst.out
              have HNO := Lib.hid hno
              have HPUT := Lib.hid hput
              clear hfirst hno hput
              subst hn
              go_wp2
              go_loopw [6, 9] (fun o i wr => ∃ j nd2 : Nat, o = .int .i64 fs.length ∧ j ≤ fs.length ∧ i = .int .i64 j ∧ wr = w1.drewN nd2 ∧ Hid (∀ q (hq : q < fs.length), q < j → (!(M.bl fs[q].1 fp || fs[q].1 == fp)) = false)) (fun _ i _ => fs.length - (intOf i).toNat)
              case atStart => exact ⟨0, nd, rfl, Nat.zero_le _, rfl, rfl, Lib.hid (fun q _ h => absurd h (Nat.not_lt_zero _))⟩
              case round =>
                obtain ⟨j, nd2, rfl, hj, rfl, rfl, hall⟩ := hrel
                by_cases hjl : j < fs.length
                · obtain ⟨b, off, rfl, hb, hc⟩ := (H.out.drewN nd2).at (by intro h; rw [h] at hjl; exact absurd hjl (Nat.not_lt_zero _))
                  obtain ⟨g0, g1⟩ := hc j hjl
                  have q0 : (w1.drewN nd2).cell? ⟨w.heap.size, 0, none⟩ = some (S fp) := c0
                  have HPL := Lib.hid (show (!(M.bl fs[j].1 fp || fs[j].1 == fp)) = true → Place fs (fp, fd) j false from fun h => Or.inr ⟨rfl, by omega, by
                    rw [HPUT.out, ins_take fs (fp, fd) j hjl HNO.out h (fun q hq hqj => hall.out q hq hqj)]
                    simp⟩)
                  have HN := Lib.hid (show (!(M.bl fs[j].1 fp || fs[j].1 == fp)) = false → ∀ q (hq : q < fs.length), q < j + 1 → (!(M.bl fs[q].1 fp || fs[q].1 == fp)) = false from fun h q hq hqj => by
                    by_cases he : q = j
                    · subst he; exact h
                    · exact hall.out q hq (by omega))
                  clear hc hb hall
                  generalize fs[j].1 = x at *
                  generalize hwq : w1.drewN nd2 = wq at *
                  have HWQ := Lib.hid hwq
                  clear hwq
                  generalize ht : (!(M.bl x fp || x == fp)) = tt at *
                  rw [Bool.not_or] at ht
                  cases tt with
                  | true =>
                    have HPL2 := Lib.hid (HPL.out (by first | trivial | rfl))
                    clear HPL HN
                    go_wp2
                    go_quiet (fail)
                    go_wp2
                    go_meet
                    case rel => exact ⟨j, _, rfl, by rw [← HWQ.out, drewN_add], HPL2⟩
                  | false =>
                    have HN2 := Lib.hid (HN.out (by first | trivial | rfl))
                    clear HPL HN
                    go_wp2
                    go_quiet (fail)
                    go_wp2
                    go_roundw
                    case rel => exact ⟨j + 1, _, by first | rfl | trivial, by omega, by go_num, by rw [← HWQ.out, drewN_add], HN2⟩
                    case measure => simp [intOf]; omega
                · obtain rfl : j = fs.length := by omega
                  have HPL := Lib.hid (show Place fs (fp, fd) fs.length false from Or.inr ⟨rfl, Nat.le_refl _, by
                    rw [HPUT.out, ins_last fs (fp, fd) HNO.out (fun g hg => by
                      obtain ⟨q, hq, rfl⟩ := List.getElem_of_mem hg
                      exact hall.out q hq hq)]
                    simp⟩)
                  clear hall
                  go_wp2
                  go_meet
                  case rel => exact ⟨fs.length, nd2, rfl, rfl, HPL⟩
          case rest =>
            obtain ⟨m, nd2, rfl, rfl, hpl⟩ := hcut
            clear hfirst
            have hcap : fs.length ≤ cap ∧ (p = none → cap = 0) := by
              obtain ⟨p', cap', hv, h0, hc, _⟩ := H.out
              obtain ⟨rfl, rfl⟩ : p = p' ∧ cap = cap' := by injection hv with h1 h2 h3; exact ⟨h1, h3⟩
              exact ⟨hc, h0⟩
            obtain ⟨hcap, hp0⟩ := hcap
            have hm : m ≤ fs.length := by
              rcases hpl.out with ⟨_, h, _⟩ | ⟨_, h, _⟩
              · omega
              · exact h
            have hmc : (m : Int) ≤ (cap : Int) := by omega
            have HT := Lib.hid ((H.out.drewN nd2).take m hm)
            have hlt2 : ((fs.take m).length) = m := by rw [List.length_take]; omega
            have hB0 : w1.heap.size ≤ (w1.drewN nd2).heap.size := Nat.le_refl _
            go_wp2_with (at_builtin; refine wpList_append_files rfl _ _ rfl w1.heap.size _ [] rfl (Own.nil _ _) _ (fs.take m) rfl HT.out (by rw [List.length_nil]; omega) hB0 ?_)
            intro v1 w3 hown1 hgrow1
            have ho3 : Old w1 w3 := Old.grownOwn (Own.nil w1.heap.size _) (Nat.le_refl _) (Old.drewN w1 nd2) hgrow1
            have hb3 := HB1.out.old ho3
            have q0 : w3.cell? ⟨w.heap.size, 0, none⟩ = some (S fp) := hb3.cellN 0 rfl
            have q1 : w3.cell? ⟨w.heap.size, 1, none⟩ = some (S fd) := hb3.cellN 1 rfl
            have HO3 := Lib.hid ho3
            have hown1' : Own w1.heap.size (w3.alloc (.cells #[S fp, S fd] 36)) v1 (fs.take m) := hown1.old (Old.alloc _ _)
            have HONE := Lib.hid (Fl.one w3 (fp, fd))
            have hB1 : w1.heap.size ≤ (w3.alloc (.cells #[S fp, S fd] 36)).heap.size := (ho3.trans (Old.alloc _ _)).size
            clear hb3 ho3 hgrow1 hown1 HT
            go_wp2_with (at_builtin; refine wpList_append_files rfl _ _ rfl w1.heap.size _ (fs.take m) rfl hown1' _ [(fp, fd)] rfl HONE.out (by rw [hlt2, List.length_singleton]; omega) hB1 ?_)
            intro v2 w4 hown2 hgrow2
            have ho4 : Old w1 w4 := Old.grownOwn hown1' (Nat.le_refl _) (HO3.out.trans (Old.alloc _ _)) hgrow2
            have HO4 := Lib.hid ho4
            have HOWN2 := Lib.hid hown2
            have hB2 := ho4.size
            have HFL4 := Lib.hid (H.out.old ho4)
            clear hown1' hgrow2 hown2 ho4 HONE HO3 q0 q1
            cases sm with
            | true =>
              obtain ⟨hml, hput⟩ : m < fs.length ∧ M.put fs (fp, fd) = fs.take m ++ [(fp, fd)] ++ fs.drop (m + 1) := by
                rcases hpl.out with ⟨_, h1, h2⟩ | ⟨h, _⟩
                · exact ⟨h1, h2⟩
                · cases h
              obtain ⟨L, hL⟩ : ∃ L, M.put fs (fp, fd) = L := ⟨_, rfl⟩
              rw [hL] at HW hput
              have HL := Lib.hid (show L = fs.take m ++ (fp, fd) :: fs.drop (m + 1) from by rw [hput]; simp)
              clear hpl hput hL
              obtain ⟨b, off, rfl, _, _⟩ := H.out.at (by intro h; rw [h] at hml; exact absurd hml (Nat.not_lt_zero _))
              have hm1 : ((m : Int) + 1) ≤ (cap : Int) := by omega
              have hm2 : ((m : Int) + 1) ≤ (fs.length : Int) := by omega
              have hm3 : ((m : Int) + 1).toNat = m + 1 := by omega
              have hm4 : (0 : Int) ≤ (m : Int) + 1 := by omega
              have hw1 : IntKind.i64.wrap ((m : Int) + 1) = (m : Int) + 1 := IntWalk.i64_in _ (by omega)
              by_cases hce : cap = m + 1
              · have HG := Lib.hid (fun c => Fl.void w4 ⟨b, off, none⟩ fs.length (m + 1) c fs rfl (by omega))
                go_wp2_with (at_builtin; refine wpList_append_files rfl _ _ rfl w1.heap.size _ (fs.take m ++ [(fp, fd)]) rfl HOWN2.out _ (fs.drop (m + 1)) rfl (HG.out _) (by rw [List.length_append, List.length_singleton, List.length_drop]; omega) hB2 ?_)
                intro v3 w5 hown3 hgrow3
                rw [← HL.out] at hown3
                have HO5 := Lib.hid (HO1.out.trans (Old.grownOwn HOWN2.out (Nat.le_refl _) HO4.out hgrow3))
                have HOWN5 := Lib.hid (hown3.mono HO1.out.size)
                obtain ⟨p5, cap5, rfl⟩ := hown3.fl.len
                clear hown3 hgrow3
                by_cases hbig2 : L.length > 32
                · rw [if_pos hbig2] at HW
                  go_wp2
                  go_ret2
                  rw [HW.out]
                  exact ⟨_, rfl, Own.nil _ _, HO5.out⟩
                · rw [if_neg hbig2] at HW
                  go_wp2
                  go_ret2
                  rw [HW.out]
                  exact ⟨_, rfl, HOWN5.out, HO5.out⟩
              · have HG := Lib.hid (HFL4.out.drop (m + 1) (by omega))
                go_wp2_with (at_builtin; refine wpList_append_files rfl _ _ rfl w1.heap.size _ (fs.take m ++ [(fp, fd)]) rfl HOWN2.out _ (fs.drop (m + 1)) rfl HG.out (by rw [List.length_append, List.length_singleton, List.length_drop]; omega) hB2 ?_)
                intro v3 w5 hown3 hgrow3
                rw [← HL.out] at hown3
                have HO5 := Lib.hid (HO1.out.trans (Old.grownOwn HOWN2.out (Nat.le_refl _) HO4.out hgrow3))
                have HOWN5 := Lib.hid (hown3.mono HO1.out.size)
                obtain ⟨p5, cap5, rfl⟩ := hown3.fl.len
                clear hown3 hgrow3
                by_cases hbig2 : L.length > 32
                · rw [if_pos hbig2] at HW
                  go_wp2
                  go_ret2
                  rw [HW.out]
                  exact ⟨_, rfl, Own.nil _ _, HO5.out⟩
                · rw [if_neg hbig2] at HW
                  go_wp2
                  go_ret2
                  rw [HW.out]
                  exact ⟨_, rfl, HOWN5.out, HO5.out⟩
            | false =>
              obtain ⟨hml, hput⟩ : m ≤ fs.length ∧ M.put fs (fp, fd) = fs.take m ++ [(fp, fd)] ++ fs.drop m := by
                rcases hpl.out with ⟨h, _⟩ | ⟨_, h1, h2⟩
                · cases h
                · exact ⟨h1, h2⟩
              obtain ⟨L, hL⟩ : ∃ L, M.put fs (fp, fd) = L := ⟨_, rfl⟩
              rw [hL] at HW hput
              have HL := Lib.hid (show L = fs.take m ++ (fp, fd) :: fs.drop m from by rw [hput]; simp)
              clear hpl hput hL
              have hm2 : (m : Int) ≤ (fs.length : Int) := by omega
              by_cases hne : fs = []
              · have hm0 : m = 0 := by rw [hne, List.length_nil] at hml; omega
                have hL0 : L = [(fp, fd)] := by rw [HL.out, hne]; simp
                have hL1 : L.length = 1 := by rw [hL0]; rfl
                have hfl0 : fs.length = 0 := by rw [hne]; rfl
                rw [if_neg (by omega), hL0] at HW
                clear hL0 hL1 HL hne
                subst hm0
                cases p with
                | none =>
                  have hc0 := hp0 rfl
                  subst hc0
                  go_wp2_with (at_builtin; refine wpList_append_files rfl _ _ rfl w1.heap.size _ (fs.take 0 ++ [(fp, fd)]) rfl HOWN2.out _ [] rfl (Fl.nil _) (by rw [List.length_append, List.length_singleton, List.length_nil]; omega) hB2 ?_)
                  all_goals
                    intro v3 w5 hown3 hgrow3
                    have HO5 := Lib.hid (HO1.out.trans (Old.grownOwn HOWN2.out (Nat.le_refl _) HO4.out hgrow3))
                    have HOWN5 := Lib.hid (hown3.mono HO1.out.size)
                    obtain ⟨p5, cap5, rfl⟩ := hown3.fl.len
                    clear hown3 hgrow3
                    go_wp2
                    go_ret2
                    rw [HW.out]
                    exact ⟨_, rfl, HOWN5.out, HO5.out⟩
                | some a =>
                  go_wp2_with (at_builtin; refine wpList_append_files rfl _ _ rfl w1.heap.size _ (fs.take 0 ++ [(fp, fd)]) rfl HOWN2.out _ [] rfl (Fl.none_of _ _ _ (by intro h; cases h)) (by rw [List.length_append, List.length_singleton, List.length_nil]; omega) hB2 ?_)
                  all_goals
                    intro v3 w5 hown3 hgrow3
                    have HO5 := Lib.hid (HO1.out.trans (Old.grownOwn HOWN2.out (Nat.le_refl _) HO4.out hgrow3))
                    have HOWN5 := Lib.hid (hown3.mono HO1.out.size)
                    obtain ⟨p5, cap5, rfl⟩ := hown3.fl.len
                    clear hown3 hgrow3
                    go_wp2
                    go_ret2
                    rw [HW.out]
                    exact ⟨_, rfl, HOWN5.out, HO5.out⟩
              · obtain ⟨b, off, rfl, _, _⟩ := H.out.at hne
                by_cases hce : cap = m
                · have HG := Lib.hid (fun c => Fl.void w4 ⟨b, off, none⟩ fs.length (m) c fs rfl (by omega))
                  go_wp2_with (at_builtin; refine wpList_append_files rfl _ _ rfl w1.heap.size _ (fs.take m ++ [(fp, fd)]) rfl HOWN2.out _ (fs.drop (m)) rfl (HG.out _) (by rw [List.length_append, List.length_singleton, List.length_drop]; omega) hB2 ?_)
                  intro v3 w5 hown3 hgrow3
                  rw [← HL.out] at hown3
                  have HO5 := Lib.hid (HO1.out.trans (Old.grownOwn HOWN2.out (Nat.le_refl _) HO4.out hgrow3))
                  have HOWN5 := Lib.hid (hown3.mono HO1.out.size)
                  obtain ⟨p5, cap5, rfl⟩ := hown3.fl.len
                  clear hown3 hgrow3
                  by_cases hbig2 : L.length > 32
                  · rw [if_pos hbig2] at HW
                    go_wp2
                    go_ret2
                    rw [HW.out]
                    exact ⟨_, rfl, Own.nil _ _, HO5.out⟩
                  · rw [if_neg hbig2] at HW
                    go_wp2
                    go_ret2
                    rw [HW.out]
                    exact ⟨_, rfl, HOWN5.out, HO5.out⟩
                · have HG := Lib.hid (HFL4.out.drop (m) (by omega))
                  go_wp2_with (at_builtin; refine wpList_append_files rfl _ _ rfl w1.heap.size _ (fs.take m ++ [(fp, fd)]) rfl HOWN2.out _ (fs.drop (m)) rfl HG.out (by rw [List.length_append, List.length_singleton, List.length_drop]; omega) hB2 ?_)
                  intro v3 w5 hown3 hgrow3
                  rw [← HL.out] at hown3
                  have HO5 := Lib.hid (HO1.out.trans (Old.grownOwn HOWN2.out (Nat.le_refl _) HO4.out hgrow3))
                  have HOWN5 := Lib.hid (hown3.mono HO1.out.size)
                  obtain ⟨p5, cap5, rfl⟩ := hown3.fl.len
                  clear hown3 hgrow3
                  by_cases hbig2 : L.length > 32
                  · rw [if_pos hbig2] at HW
                    go_wp2
                    go_ret2
                    rw [HW.out]
                    exact ⟨_, rfl, Own.nil _ _, HO5.out⟩
                  · rw [if_neg hbig2] at HW
                    go_wp2
                    go_ret2
                    rw [HW.out]
                    exact ⟨_, rfl, HOWN5.out, HO5.out⟩
  · subst hp
    rw [if_pos (by decide)] at HCK
    rw [HCK.out, if_pos (by decide)] at HW
    rw [HW.out]
    go_enter Tryd.func33, Tryd.ntmps33
    go_wp2_with ((with_reducible refine G1.out.mono ?_); rintro e w2 ⟨rfl, hw⟩; obtain rfl := hw.symm)
    go_ret2
    exact ⟨_, rfl, Own.nil _ _, HO1.out⟩
end Go.Proofs.YtcmbmbdjdkldoaaDoor
