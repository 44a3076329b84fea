/- The program's calls at arguments of any size: the files below a path, the look at a list, one more file. -/
import Derived.Test.YtcmbmbdjdkldoaaDoorPathsP
namespace Go.Proofs.YtcmbmbdjdkldoaaDoor
open Go.RowKit

theorem isBelow_wide (p t : List UInt8) (ht : t.length ≤ 4611686018427387904) (w : World) :
    Calls Tryd.prog 47 #[S p, S t] w fun e w' => e = .returned (.bool (M.below p t)) ∧ w' = w := by
  have HP := Lib.hid (Tryd.strings_HasPrefix ⟨⟨p⟩⟩ ⟨⟨t⟩⟩ w)
  have h1 := size_mk p
  have h2 := size_mk t
  have HB := Lib.hid (show M.below p t = (decide (t.length + 1 < p.length) && (p[t.length]? == some 47) && (p.take t.length == t)) from rfl)
  by_cases hlt : t.length + 1 < p.length
  · obtain ⟨c, hgt⟩ : ∃ c, ∀ h, (⟨⟨p⟩⟩ : ByteArray)[t.length]'h = c := ⟨p[t.length], fun _ => rfl⟩
    have HC := Lib.hid (show p[t.length]? = some c by rw [List.getElem?_eq_getElem (by omega)]; exact congrArg some (hgt (by rw [h1]; omega)))
    have hcl := c.toNat_lt
    by_cases hc : c.toNat = 47
    · have hcn : c = 47 := UInt8.toNat_inj.1 hc
      go_enter Tryd.func47, Tryd.ntmps47
      go_wp2_with ((with_reducible refine HP.out.mono ?_); rintro e w1 ⟨rfl, rfl⟩)
      go_ret
      refine ⟨ret_bool ?_, rfl⟩
      rw [HB.out, HC.out, hcn, decide_eq_true hlt, hasPrefix_take]
      rfl
    · go_enter Tryd.func47, Tryd.ntmps47
      go_wp2
      go_ret
      refine ⟨ret_bool ?_, rfl⟩
      rw [HB.out, HC.out, decide_eq_true hlt]
      have : (some c == some 47) = false := beq_eq_false_iff_ne.2 (fun e => hc (by rw [Option.some.inj e]; rfl))
      rw [this]
      rfl
  · go_enter Tryd.func47, Tryd.ntmps47
    go_wp2
    go_ret
    exact ⟨ret_bool (by rw [HB.out, decide_eq_false hlt]; rfl), rfl⟩

theorem under1_wide (s : List UInt8) (hs : s.length ≤ 4611686018427387904) (b : Nat) (w : World) (hc : w.cell? ⟨b, 0, none⟩ = some (S s)) :
    Tests 48 #[.pointer (some ⟨b, 0, none⟩)] (fun g => !M.below g.1 s) Small w := fun W f _ ho => by
  have hb := World.block_lt_of_cell? _ _ hc
  have hcW : ∀ o, (W.alloc o).cell? ⟨b, 0, none⟩ = some (S s) := fun o => (((ho.trans (Old.alloc W o))).cell (p := ⟨b, 0, none⟩) hb).trans hc
  have H2 := Lib.hid (fun w1 => isBelow_wide f.1 s hs w1)
  clear hc ho hb
  show Calls Tryd.prog 48 #[.agg #[.string ⟨⟨f.1⟩⟩, .string ⟨⟨f.2⟩⟩], .pointer (some ⟨b, 0, none⟩)] W _
  obtain ⟨fp, fd⟩ := f
  simp only at H2 ⊢
  generalize M.below fp s = r2 at *
  go_enter Tryd.func48, Tryd.ntmps48
  go_wp2_with ((with_reducible refine (H2.out _).mono ?_); rintro e w1 ⟨rfl, rfl⟩)
  go_ret
  exact ⟨rfl, Old.alloc _ _⟩

set_option maxHeartbeats 2000000 in
set_option maxRecDepth 100000 in
theorem under_wide (v : Value) (fs : List M.Fi) (s : List UInt8) (w : World) (h : Fl w v fs) (hf : Alls fs) (hs : s.length ≤ 4611686018427387904) :
    Calls Tryd.prog 30 #[v, S s] w fun e w' => ∃ u, e = .returned u ∧ Own w.heap.size w' u (M.under fs s) ∧ Old w w' := by
  have hb : (w.alloc (.cells #[S s] 9)).cell? ⟨w.heap.size, 0, none⟩ = some (S s) := (Blk.new w #[S s] 9).cellN 0 rfl
  have HC := Lib.hid (leaveOut_any 48 #[.pointer (some ⟨w.heap.size, 0, none⟩)] enter_under _ v fs _ (h.old (Old.alloc w (.cells #[S s] 9))) hf (under1_wide s hs w.heap.size _ hb))
  have hlF : (fs.filter fun f => !(!M.below f.1 s)).length ≤ 1099511627776 := Nat.le_trans (List.length_filter_le _ _) hf.1
  have hbF : ∀ f ∈ (fs.filter fun f => !(!M.below f.1 s)), M.below f.1 s = true ∧ f.1.length ≤ 1099511627776 := fun f hfm => by
    rw [List.mem_filter] at hfm
    exact ⟨by simpa using hfm.2, (hf.2 f hfm.1).1⟩
  have hU : M.under fs s = (fs.filter fun f => !(!M.below f.1 s)).map (M.tail s) := by unfold M.under; simp
  rw [hU]
  clear hU h hf
  generalize (fs.filter fun f => !(!M.below f.1 s)) = F at *
  have HBF := Lib.hid hbF
  have HB := Lib.hid hb
  have hsz := size_mk s
  clear hbF hb
  go_enter Tryd.func30, Tryd.ntmps30
  go_wp2_with fail
  refine HC.out.mono ?_
  rintro e w1 ⟨u, rfl, hown, ho1⟩
  obtain ⟨p, cap, rfl⟩ := hown.fl.len
  have HOWN := Lib.hid (show Own w.heap.size w1 (.slice p F.length cap) (tails s F 0) from by
    have : tails s F 0 = F := by simp [tails]
    rw [this]; exact hown.mono (by simp))
  have HOW := Lib.hid (show Old w w1 from (Old.alloc w _).trans ho1)
  have HB1 := Lib.hid (show w1.cell? ⟨w.heap.size, 0, none⟩ = some (S s) from (ho1.cell (p := ⟨w.heap.size, 0, none⟩) (by simp)).trans HB.out)
  have HGN := Lib.hid (show ∀ g, (Value.slice p F.length cap).ownBlock = some g → w.heap.size + 1 ≤ g from by have := row_from hown; simpa using this)
  clear hown ho1 HC HB
  go_wp2
  go_loopw [6, 12] (fun _ i wr => ∃ k : Nat, k ≤ F.length ∧ i = .int .i64 k ∧ Own w.heap.size wr (.slice p F.length cap) (tails s F k) ∧ Old w wr ∧ wr.cell? ⟨w.heap.size, 0, none⟩ = some (S s)) (fun _ i _ => F.length - (intOf i).toNat)
  case atStart => exact ⟨0, Nat.zero_le _, rfl, HOWN.out, HOW.out, HB1.out⟩
  case round =>
    obtain ⟨k, hk, rfl, hown, ho, hcs⟩ := hrel
    have HO := Lib.hid ho
    have HOWN := Lib.hid hown
    clear ho hown
    by_cases hlt : k < F.length
    · obtain ⟨g, cap', hv, hg⟩ := row_at HOWN.out (by rw [tails_len _ _ _ hk]; omega)
      obtain ⟨rfl, rfl⟩ : p = some ⟨g, 0, none⟩ ∧ cap = cap' := by injection hv with h1 h2 h3; exact ⟨h1, h3⟩
      clear hv
      have hgn : w.heap.size ≠ g := by have := HGN.out g rfl; omega
      have HA := Lib.hid (tails_at s F k hlt)
      have hlc : (cells (tails s F k)).length = F.length * 2 := by rw [cells_len, tails_len _ _ _ hk]
      have hrow : wr.ownsRow w.heap.size 36 2 (.slice (some ⟨g, 0, none⟩) F.length cap) F.length (cells (tails s F k)) := by have := HOWN.out; unfold Own at this; rwa [tails_len _ _ _ hk] at this
      obtain ⟨c0, f0⟩ := row_cell hrow (k * 2) (by omega)
      have hx : (cells (tails s F k))[k * 2]'(by omega) = S F[k].1 := by
        have e := (cells_at (tails s F k) k (by rw [tails_len _ _ _ hk]; exact hlt)).1
        have e2 : (tails s F k)[k]'(by rw [tails_len _ _ _ hk]; exact hlt) = F[k] := by have := HA.out; rw [List.getElem?_eq_getElem (by rw [tails_len _ _ _ hk]; exact hlt)] at this; exact Option.some.inj this
        rw [e2, List.getElem?_eq_getElem (by omega)] at e
        exact Option.some.inj e
      rw [hx] at c0
      have HST := Lib.hid (row_set hrow (i := k * 2) (by omega) (S (F[k].1.drop (s.length + 1))))
      have hset := cells_set1 (tails s F k) k (by rw [tails_len _ _ _ hk]; exact hlt) (F[k].1.drop (s.length + 1))
      have htl : (tails s F k).set k (F[k].1.drop (s.length + 1), ((tails s F k)[k]'(by rw [tails_len _ _ _ hk]; exact hlt)).2) = tails s F (k + 1) := by
        have e2 : (tails s F k)[k]'(by rw [tails_len _ _ _ hk]; exact hlt) = F[k] := by have := HA.out; rw [List.getElem?_eq_getElem (by rw [tails_len _ _ _ hk]; exact hlt)] at this; exact Option.some.inj this
        rw [e2]
        exact tails_step s F k hlt
      rw [htl] at hset
      have HSET := Lib.hid hset
      clear hset htl hx hlc
      obtain ⟨hbel, hxm⟩ := HBF.out F[k] (List.getElem_mem hlt)
      have hxl : s.length + 1 < F[k].1.length := by unfold M.below at hbel; simp only [Bool.and_eq_true, decide_eq_true_eq] at hbel; exact hbel.1.1
      clear hbel hrow HA
      generalize F[k].1 = x at *
      have hxs := size_mk x
      have l1 : (0 : Int) ≤ (s.length : Int) + 1 := by omega
      have l2 : (s.length : Int) + 1 ≤ (x.length : Int) := by omega
      have l3 : ((s.length : Int) + 1).toNat = s.length + 1 := by omega
      have l4 : IntKind.i64.wrap ((s.length : Int) + 1) = (s.length : Int) + 1 := IntWalk.i64_in _ (by omega)
      have hex := extract_drop x (s.length + 1)
      go_wp2
      go_still_tail 13, (by kernel_rfl)
      change wpList _ _ _ _ _ wr.drew
      go_wp2
      go_roundw
      case rel =>
        refine ⟨k + 1, by omega, by go_num, ?_, (HO.out.setNew (p := ⟨g, k * 2, none⟩) hg _).drew, ?_⟩
        · show World.ownsRow _ w.heap.size 36 2 _ (tails s F (k + 1)).length (cells (tails s F (k + 1)))
          rw [tails_len _ _ _ (by omega), ← HSET.out]
          exact HST.out
        · have hb : (wr.setCell ⟨g, k * 2, none⟩ (S (List.drop (s.length + 1) x))).heap[w.heap.size]? = wr.heap[w.heap.size]? := heap_setCell_other wr ⟨g, k * 2, none⟩ w.heap.size _ hgn
          exact (World.cell?_of_block (a := ⟨w.heap.size, 0, none⟩) hb).trans hcs
      case measure => simp [intOf]; omega
    · obtain rfl : k = F.length := by omega
      have ht : tails s F F.length = F.map (M.tail s) := by simp [tails]
      rw [ht] at HOWN
      go_wp2
      go_ret
      exact ⟨_, rfl, HOWN.out, HO.out⟩

theorem small_of_chk {f : M.Fi} (h : M.chk1 f = 0) : f.1.length ≤ 48 ∧ f.2.length ≤ 2048 ∧ M.path f.1 = 0 := by
  unfold M.chk1 at h
  by_cases hp : M.path f.1 = 0
  · rw [if_neg (by rw [hp]; simp)] at h
    refine ⟨?_, ?_, hp⟩
    · unfold M.path at hp
      split at hp
      · rename_i h2; exact h2.1
      · cases hp
    · split at h
      · cases h
      · omega
  · rw [if_pos hp] at h
    cases h
theorem chk_of_first : ∀ {fs : List M.Fi}, M.firstErr fs = 0 ↔ ∀ f ∈ fs, M.chk1 f = 0
  | [] => ⟨fun _ f h => (by cases h), fun _ => rfl⟩
  | f :: r => by
      rw [M.firstErr]
      by_cases h : M.chk1 f = 0
      · rw [if_neg (by rw [h]; simp), chk_of_first (fs := r)]
        constructor
        · intro h2 g hg
          rcases List.mem_cons.1 hg with rfl | hg
          · exact h
          · exact h2 g hg
        · exact fun h2 g hg => h2 g (List.mem_cons_of_mem _ hg)
      · rw [if_pos h]
        exact ⟨fun h2 => absurd h2 h, fun h2 => absurd (h2 f (by simp)) h⟩
theorem alls_of_chk {fs : List M.Fi} (h : ∀ f ∈ fs, M.chk1 f = 0) (hl : fs.length ≤ 1000) : Alls fs :=
  ⟨by omega, fun f hf => by obtain ⟨h1, h2, _⟩ := small_of_chk (h f hf); exact ⟨by omega, by omega⟩⟩

set_option maxHeartbeats 4000000 in
set_option maxRecDepth 100000 in
theorem check_wide (v : Value) (fs : List M.Fi) (w : World) (h : Fl w v fs) (hl : fs.length ≤ maxLen) (hf : ∀ f, f ∈ fs → f.1.length ≤ maxLen ∧ f.2.length ≤ maxLen) (hm : Mx w) :
    Calls Tryd.prog 23 #[v] w fun e w' => e = .returned (.int .i64 (M.check fs)) ∧ Old w w' := by
  by_cases hal : Alls fs
  · exact check_any v fs w h hal hm
  have HM := Lib.hid hm
  have H := Lib.hid h
  have HF := Lib.hid hf
  have HNA := Lib.hid hal
  have hlen := hl
  unfold maxLen at hlen
  have G1 := Lib.hid (fun (f : M.Fi) (hf : f.1.length ≤ maxLen ∧ f.2.length ≤ maxLen) w2 (hm : Mx w2) => checkFile_any f hf.1 hf.2 w2 hm)
  obtain ⟨p, cap, rfl⟩ := h.len
  clear h hf hm hal hl
  go_enter Tryd.func23, Tryd.ntmps23
  go_wp2
  go_loopw [10] (fun i wr => ∃ k : Nat, k ≤ fs.length ∧ i = .int .i64 k ∧ Old w wr ∧ Hid (M.firstErr fs = M.firstErr (fs.drop k))) (fun i _ => fs.length - (intOf i).toNat)
  case atStart => exact ⟨0, Nat.zero_le _, rfl, Below.refl _ _, Lib.hid rfl⟩
  case round =>
    obtain ⟨k, hk, rfl, ho, hfe⟩ := hrel
    have HO := Lib.hid ho
    clear ho
    by_cases hlt : k < fs.length
    · obtain ⟨b, off, rfl, hb, hc⟩ := (H.out.old HO.out).at (by intro h; rw [h] at hlt; exact absurd hlt (Nat.not_lt_zero _))
      obtain ⟨hc0, hc1⟩ := hc k hlt
      have hsm := HF.out _ (List.getElem_mem hlt)
      have hst := hfe.out
      rw [List.drop_eq_getElem_cons hlt, M.firstErr] at hst
      have HST := Lib.hid hst
      clear hc hst
      generalize fs[k] = f at *
      obtain ⟨w2, ew2, hb2, ho2⟩ : ∃ w2, wr.alloc (.cells #[S f.1, S f.2] 36) = w2 ∧ Blk w2 wr.heap.size #[S f.1, S f.2] 36 ∧ Old wr w2 := ⟨_, rfl, Blk.new wr _ _, Old.alloc wr _⟩
      have d0 := hb2.cellN 0 rfl
      have d1 := hb2.cellN 1 rfl
      have HO2 := Lib.hid (HO.out.trans ho2)
      have HG := Lib.hid (G1.out f hsm w2 (HM.out.old HO2.out))
      clear hsm hb2 ho2
      generalize M.chk1 f = e1 at *
      by_cases he : e1 = 0
      · subst he
        go_wp2_with ((with_reducible refine HG.out.mono ?_); rintro e w3 ⟨rfl, ho3⟩)
        go_roundw
        case rel =>
          have hst := HST.out
          rw [if_neg (by decide)] at hst
          exact ⟨k + 1, by omega, by go_num, HO2.out.trans ho3, Lib.hid hst⟩
        case measure => simp [intOf]; omega
      · go_wp2_with ((with_reducible refine HG.out.mono ?_); rintro e w3 ⟨rfl, ho3⟩)
        go_ret
        have hst := HST.out
        rw [if_pos he] at hst
        exact ⟨ret_int (by unfold M.check; rw [if_pos (by rw [hst]; exact he), hst]), HO2.out.trans ho3⟩
    · obtain rfl : k = fs.length := by omega
      have hf0 := hfe.out
      rw [List.drop_of_length_le (Nat.le_refl _), M.firstErr] at hf0
      have hbig : 32 < fs.length := by
        refine Nat.lt_of_not_le fun h => HNA.out (alls_of_chk (chk_of_first.1 hf0) (by omega))
      have HF0 := Lib.hid hf0
      clear hf0 hfe
      go_wp2
      go_ret
      exact ⟨ret_int (check_big HF0.out hbig).symm, HO.out⟩

set_option maxHeartbeats 2000000 in
set_option maxRecDepth 100000 in
theorem with_wide (v : Value) (fs : List M.Fi) (f : M.Fi) (w : World) (h : Fl w v fs) (hf : Alls fs) (hs : f.1.length ≤ maxLen ∧ f.2.length ≤ maxLen) (hm : Mx w) :
    Calls Tryd.prog 32 #[v, fv f] w fun e w' => ∃ u, e = .returned (.tuple #[u, .int .i64 (M.withF fs f).2]) ∧ Own w.heap.size w' u (M.withF fs f).1 ∧ Old w w' := by
  by_cases hz : M.chk1 f = 0
  · obtain ⟨h1, h2, _⟩ := small_of_chk hz
    exact with_any v fs f w h hf ⟨by omega, by omega⟩ hm
  have hw : M.withF fs f = ([], M.chk1 f) := by unfold M.withF; rw [if_pos hz]
  rw [hw]
  obtain ⟨w1, ew1, hb1, ho1⟩ : ∃ w1, w.alloc (.cells #[S f.1, S f.2] 36) = w1 ∧ Blk w1 w.heap.size #[S f.1, S f.2] 36 ∧ Old w w1 := ⟨_, rfl, Blk.new w _ _, Old.alloc w _⟩
  have G1 := Lib.hid (fun w2 (hm : Mx w2) => checkFile_any f hs.1 hs.2 w2 hm)
  have HM := Lib.hid (hm.old ho1)
  have HO1 := Lib.hid ho1
  have c0 := hb1.cellN 0 rfl
  have c1 := hb1.cellN 1 rfl
  clear h hf hs hm hb1 ho1 hw
  obtain ⟨fp, fd⟩ := f
  simp only at *
  generalize M.chk1 (fp, fd) = e1 at *
  show Calls Tryd.prog 32 #[v, .agg #[.string ⟨⟨fp⟩⟩, .string ⟨⟨fd⟩⟩]] w _
  go_enter Tryd.func32, Tryd.ntmps32
  go_wp2_with ((with_reducible refine (G1.out _ HM.out).mono ?_); rintro e w2 ⟨rfl, ho2⟩)
  go_ret2
  exact ⟨_, rfl, Own.nil _ _, HO1.out.trans ho2⟩
end Go.Proofs.YtcmbmbdjdkldoaaDoor
