/- Merged of: PathsBA PathsBB. -/
import Derived.Test.YtabcobadglgfkaaGreatDoorMF3
/- The program's calls at arguments of any size: the files below a path, the look at a list, one more file. -/
namespace Go.Proofs.YtabcobadglgfkaaGreatDoor
open Go.RowKit

theorem isBelow_wide (p t : List UInt8) (ht : t.length ≤ 4611686018427387904) (w : World) :
    Calls Tryz.prog 69 #[S p, S t] w fun e w' => e = .returned (.bool (M.below p t)) ∧ w' = w := by
  have HP := Lib.hid (Tryz.strings_HasPrefix ⟨⟨p⟩⟩ ⟨⟨t⟩⟩ w)
  have h1 := size_mk p
  have h2 := size_mk t
  have HB := Lib.hid (show M.below p t = (decide (t.length + 1 < p.length) && (p[t.length]? == some 47) && (p.take t.length == t)) from rfl)
  by_cases hlt : t.length + 1 < p.length
  · obtain ⟨c, hgt⟩ : ∃ c, ∀ h, (⟨⟨p⟩⟩ : ByteArray)[t.length]'h = c := ⟨p[t.length], fun _ => rfl⟩
    have HC := Lib.hid (show p[t.length]? = some c by rw [List.getElem?_eq_getElem (by omega)]; exact congrArg some (hgt (by rw [h1]; omega)))
    have hcl := c.toNat_lt
    by_cases hc : c.toNat = 47
    · have hcn : c = 47 := UInt8.toNat_inj.1 hc
      go_enter Tryz.func69, Tryz.ntmps69
      go_wp2_with ((with_reducible refine HP.out.mono ?_); rintro e w1 ⟨rfl, rfl⟩)
      go_ret
      refine ⟨ret_bool ?_, rfl⟩
      rw [HB.out, HC.out, hcn, decide_eq_true hlt, hasPrefix_take]
      rfl
    · go_enter Tryz.func69, Tryz.ntmps69
      go_wp2
      go_ret
      refine ⟨ret_bool ?_, rfl⟩
      rw [HB.out, HC.out, decide_eq_true hlt]
      have : (some c == some 47) = false := beq_eq_false_iff_ne.2 (fun e => hc (by rw [Option.some.inj e]; rfl))
      rw [this]
      rfl
  · go_enter Tryz.func69, Tryz.ntmps69
    go_wp2
    go_ret
    exact ⟨ret_bool (by rw [HB.out, decide_eq_false hlt]; rfl), rfl⟩

theorem under1_wide (s : List UInt8) (hs : s.length ≤ 4611686018427387904) (b : Nat) (w : World) (hc : w.cell? ⟨b, 0, none⟩ = some (S s)) :
    Tests 68 #[.pointer (some ⟨b, 0, none⟩)] (fun g => !M.below g.1 s) Small w := fun W f _ ho => by
  have hb := World.block_lt_of_cell? _ _ hc
  have hcW : ∀ o, (W.alloc o).cell? ⟨b, 0, none⟩ = some (S s) := fun o => (((ho.trans (Old.alloc W o))).cell (p := ⟨b, 0, none⟩) hb).trans hc
  have H2 := Lib.hid (fun w1 => isBelow_wide f.1 s hs w1)
  clear hc ho hb
  show Calls Tryz.prog 68 #[.agg #[.string ⟨⟨f.1⟩⟩, .string ⟨⟨f.2⟩⟩], .pointer (some ⟨b, 0, none⟩)] W _
  obtain ⟨fp, fd⟩ := f
  simp only at H2 ⊢
  generalize M.below fp s = r2 at *
  go_enter Tryz.func68, Tryz.ntmps68
  go_wp2_with ((with_reducible refine (H2.out _).mono ?_); rintro e w1 ⟨rfl, rfl⟩)
  go_ret
  exact ⟨rfl, Old.alloc _ _⟩

set_option maxHeartbeats 2000000 in
set_option maxRecDepth 100000 in
theorem under_wide (v : Value) (fs : List M.Fi) (s : List UInt8) (w : World) (h : Fl w v fs) (hf : Alls fs) (hs : s.length ≤ 4611686018427387904) :
    Calls Tryz.prog 31 #[v, S s] w fun e w' => ∃ u, e = .returned u ∧ Own w.heap.size w' u (M.under fs s) ∧ Old w w' := by
  have hb : (w.alloc (.cells #[S s] 9)).cell? ⟨w.heap.size, 0, none⟩ = some (S s) := (Blk.new w #[S s] 9).cellN 0 rfl
  have HC := Lib.hid (leaveOut_any 68 #[.pointer (some ⟨w.heap.size, 0, none⟩)] enter_under _ v fs _ (h.old (Old.alloc w (.cells #[S s] 9))) hf (under1_wide s hs w.heap.size _ hb))
  have hlF : (fs.filter fun f => !(!M.below f.1 s)).length ≤ 1099511627776 := Nat.le_trans (List.length_filter_le _ _) hf.1
  have hbF : ∀ f ∈ (fs.filter fun f => !(!M.below f.1 s)), M.below f.1 s = true ∧ f.1.length ≤ 1099511627776 := fun f hfm => by
    rw [List.mem_filter] at hfm
    exact ⟨by simpa using hfm.2, (hf.2 f hfm.1).1⟩
  have hU : M.under fs s = (fs.filter fun f => !(!M.below f.1 s)).map (M.tail s) := by unfold M.under; simp
  rw [hU]
  clear hU h hf
  generalize (fs.filter fun f => !(!M.below f.1 s)) = F at *
  have HBF := Lib.hid hbF
  have HB := Lib.hid hb
  have hsz := size_mk s
  clear hbF hb
  go_enter Tryz.func31, Tryz.ntmps31
  go_wp2_with fail
  refine HC.out.mono ?_
  rintro e w1 ⟨u, rfl, hown, ho1⟩
  obtain ⟨p, cap, rfl⟩ := hown.fl.len
  have HOWN := Lib.hid (show Own w.heap.size w1 (.slice p F.length cap) (tails s F 0) from by
    have : tails s F 0 = F := by simp [tails]
    rw [this]; exact hown.mono (by simp))
  have HOW := Lib.hid (show Old w w1 from (Old.alloc w _).trans ho1)
  have HB1 := Lib.hid (show w1.cell? ⟨w.heap.size, 0, none⟩ = some (S s) from (ho1.cell (p := ⟨w.heap.size, 0, none⟩) (by simp)).trans HB.out)
  have HGN := Lib.hid (show ∀ g, (Value.slice p F.length cap).ownBlock = some g → w.heap.size + 1 ≤ g from by have := row_from hown; simpa using this)
  clear hown ho1 HC HB
  go_wp2
  go_loopw [6, 12] (fun _ i wr => ∃ k : Nat, k ≤ F.length ∧ i = .int .i64 k ∧ Own w.heap.size wr (.slice p F.length cap) (tails s F k) ∧ Old w wr ∧ wr.cell? ⟨w.heap.size, 0, none⟩ = some (S s)) (fun _ i _ => F.length - (intOf i).toNat)
  case atStart => exact ⟨0, Nat.zero_le _, rfl, HOWN.out, HOW.out, HB1.out⟩
  case round =>
    obtain ⟨k, hk, rfl, hown, ho, hcs⟩ := hrel
    have HO := Lib.hid ho
    have HOWN := Lib.hid hown
    clear ho hown
    by_cases hlt : k < F.length
    · obtain ⟨g, cap', hv, hg⟩ := row_at HOWN.out (by rw [tails_len _ _ _ hk]; omega)
      obtain ⟨rfl, rfl⟩ : p = some ⟨g, 0, none⟩ ∧ cap = cap' := by injection hv with h1 h2 h3; exact ⟨h1, h3⟩
      clear hv
      have hgn : w.heap.size ≠ g := by have := HGN.out g rfl; omega
      have HA := Lib.hid (tails_at s F k hlt)
      have hlc : (cells (tails s F k)).length = F.length * 2 := by rw [cells_len, tails_len _ _ _ hk]
      have hrow : wr.ownsRow w.heap.size 54 2 (.slice (some ⟨g, 0, none⟩) F.length cap) F.length (cells (tails s F k)) := by have := HOWN.out; unfold Own at this; rwa [tails_len _ _ _ hk] at this
      obtain ⟨c0, f0⟩ := row_cell hrow (k * 2) (by omega)
      have hx : (cells (tails s F k))[k * 2]'(by omega) = S F[k].1 := by
        have e := (cells_at (tails s F k) k (by rw [tails_len _ _ _ hk]; exact hlt)).1
        have e2 : (tails s F k)[k]'(by rw [tails_len _ _ _ hk]; exact hlt) = F[k] := by have := HA.out; rw [List.getElem?_eq_getElem (by rw [tails_len _ _ _ hk]; exact hlt)] at this; exact Option.some.inj this
        rw [e2, List.getElem?_eq_getElem (by omega)] at e
        exact Option.some.inj e
      rw [hx] at c0
      have HST := Lib.hid (row_set hrow (i := k * 2) (by omega) (S (F[k].1.drop (s.length + 1))))
      have hset := cells_set1 (tails s F k) k (by rw [tails_len _ _ _ hk]; exact hlt) (F[k].1.drop (s.length + 1))
      have htl : (tails s F k).set k (F[k].1.drop (s.length + 1), ((tails s F k)[k]'(by rw [tails_len _ _ _ hk]; exact hlt)).2) = tails s F (k + 1) := by
        have e2 : (tails s F k)[k]'(by rw [tails_len _ _ _ hk]; exact hlt) = F[k] := by have := HA.out; rw [List.getElem?_eq_getElem (by rw [tails_len _ _ _ hk]; exact hlt)] at this; exact Option.some.inj this
        rw [e2]
        exact tails_step s F k hlt
      rw [htl] at hset
      have HSET := Lib.hid hset
      clear hset htl hx hlc
      obtain ⟨hbel, hxm⟩ := HBF.out F[k] (List.getElem_mem hlt)
      have hxl : s.length + 1 < F[k].1.length := by unfold M.below at hbel; simp only [Bool.and_eq_true, decide_eq_true_eq] at hbel; exact hbel.1.1
      clear hbel hrow HA
      generalize F[k].1 = x at *
      have hxs := size_mk x
      have l1 : (0 : Int) ≤ (s.length : Int) + 1 := by omega
      have l2 : (s.length : Int) + 1 ≤ (x.length : Int) := by omega
      have l3 : ((s.length : Int) + 1).toNat = s.length + 1 := by omega
      have l4 : IntKind.i64.wrap ((s.length : Int) + 1) = (s.length : Int) + 1 := IntWalk.i64_in _ (by omega)
      have hex := extract_drop x (s.length + 1)
      go_wp2
      go_still_tail 13, (by kernel_rfl)
      change wpList _ _ _ _ _ wr.drew
      go_wp2
      go_roundw
      case rel =>
        refine ⟨k + 1, by omega, by go_num, ?_, (HO.out.setNew (p := ⟨g, k * 2, none⟩) hg _).drew, ?_⟩
        · show World.ownsRow _ w.heap.size 54 2 _ (tails s F (k + 1)).length (cells (tails s F (k + 1)))
          rw [tails_len _ _ _ (by omega), ← HSET.out]
          exact HST.out
        · have hb : (wr.setCell ⟨g, k * 2, none⟩ (S (List.drop (s.length + 1) x))).heap[w.heap.size]? = wr.heap[w.heap.size]? := heap_setCell_other wr ⟨g, k * 2, none⟩ w.heap.size _ hgn
          exact (World.cell?_of_block (a := ⟨w.heap.size, 0, none⟩) hb).trans hcs
      case measure => simp [intOf]; omega
    · obtain rfl : k = F.length := by omega
      have ht : tails s F F.length = F.map (M.tail s) := by simp [tails]
      rw [ht] at HOWN
      go_wp2
      go_ret
      exact ⟨_, rfl, HOWN.out, HO.out⟩

theorem small_of_chk {f : M.Fi} (h : M.chk1 f = 0) : f.1.length ≤ 48 ∧ f.2.length ≤ 2048 ∧ M.path f.1 = 0 := by
  unfold M.chk1 at h
  by_cases hp : M.path f.1 = 0
  · rw [if_neg (by rw [hp]; simp)] at h
    refine ⟨?_, ?_, hp⟩
    · unfold M.path at hp
      split at hp
      · rename_i h2; exact h2.1
      · cases hp
    · split at h
      · cases h
      · omega
  · rw [if_pos hp] at h
    cases h
theorem chk_of_first : ∀ {fs : List M.Fi}, M.firstErr fs = 0 ↔ ∀ f ∈ fs, M.chk1 f = 0
  | [] => ⟨fun _ f h => (by cases h), fun _ => rfl⟩
  | f :: r => by
      rw [M.firstErr]
      by_cases h : M.chk1 f = 0
      · rw [if_neg (by rw [h]; simp), chk_of_first (fs := r)]
        constructor
        · intro h2 g hg
          rcases List.mem_cons.1 hg with rfl | hg
          · exact h
          · exact h2 g hg
        · exact fun h2 g hg => h2 g (List.mem_cons_of_mem _ hg)
      · rw [if_pos h]
        exact ⟨fun h2 => absurd h2 h, fun h2 => absurd (h2 f (by simp)) h⟩
theorem alls_of_chk {fs : List M.Fi} (h : ∀ f ∈ fs, M.chk1 f = 0) (hl : fs.length ≤ 1000) : Alls fs :=
  ⟨by omega, fun f hf => by obtain ⟨h1, h2, _⟩ := small_of_chk (h f hf); exact ⟨by omega, by omega⟩⟩

set_option maxHeartbeats 4000000 in
set_option maxRecDepth 100000 in
theorem check_wide (v : Value) (fs : List M.Fi) (w : World) (h : Fl w v fs) (hl : fs.length ≤ maxLen) (hf : ∀ f, f ∈ fs → f.1.length ≤ maxLen ∧ f.2.length ≤ maxLen) (hm : Mx w) :
    Calls Tryz.prog 29 #[v] w fun e w' => e = .returned (.int .i64 (M.check fs)) ∧ Old w w' := by
  by_cases hal : Alls fs
  · exact check_any v fs w h hal hm
  have HM := Lib.hid hm
  have H := Lib.hid h
  have HF := Lib.hid hf
  have HNA := Lib.hid hal
  have hlen := hl
  unfold maxLen at hlen
  have G1 := Lib.hid (fun (f : M.Fi) (hf : f.1.length ≤ maxLen ∧ f.2.length ≤ maxLen) w2 (hm : Mx w2) => checkFile_any f hf.1 hf.2 w2 hm)
  obtain ⟨p, cap, rfl⟩ := h.len
  clear h hf hm hal hl
  go_enter Tryz.func29, Tryz.ntmps29
  go_wp2
  go_loopw [10] (fun i wr => ∃ k : Nat, k ≤ fs.length ∧ i = .int .i64 k ∧ Old w wr ∧ Hid (M.firstErr fs = M.firstErr (fs.drop k))) (fun i _ => fs.length - (intOf i).toNat)
  case atStart => exact ⟨0, Nat.zero_le _, rfl, Below.refl _ _, Lib.hid rfl⟩
  case round =>
    obtain ⟨k, hk, rfl, ho, hfe⟩ := hrel
    have HO := Lib.hid ho
    clear ho
    by_cases hlt : k < fs.length
    · obtain ⟨b, off, rfl, hb, hc⟩ := (H.out.old HO.out).at (by intro h; rw [h] at hlt; exact absurd hlt (Nat.not_lt_zero _))
      obtain ⟨hc0, hc1⟩ := hc k hlt
      have hsm := HF.out _ (List.getElem_mem hlt)
      have hst := hfe.out
      rw [List.drop_eq_getElem_cons hlt, M.firstErr] at hst
      have HST := Lib.hid hst
      clear hc hst
      generalize fs[k] = f at *
      obtain ⟨w2, ew2, hb2, ho2⟩ : ∃ w2, wr.alloc (.cells #[S f.1, S f.2] 54) = w2 ∧ Blk w2 wr.heap.size #[S f.1, S f.2] 54 ∧ Old wr w2 := ⟨_, rfl, Blk.new wr _ _, Old.alloc wr _⟩
      have d0 := hb2.cellN 0 rfl
      have d1 := hb2.cellN 1 rfl
      have HO2 := Lib.hid (HO.out.trans ho2)
      have HG := Lib.hid (G1.out f hsm w2 (HM.out.old HO2.out))
      clear hsm hb2 ho2
      generalize M.chk1 f = e1 at *
      by_cases he : e1 = 0
      · subst he
        go_wp2_with ((with_reducible refine HG.out.mono ?_); rintro e w3 ⟨rfl, ho3⟩)
        go_roundw
        case rel =>
          have hst := HST.out
          rw [if_neg (by decide)] at hst
          exact ⟨k + 1, by omega, by go_num, HO2.out.trans ho3, Lib.hid hst⟩
        case measure => simp [intOf]; omega
      · go_wp2_with ((with_reducible refine HG.out.mono ?_); rintro e w3 ⟨rfl, ho3⟩)
        go_ret
        have hst := HST.out
        rw [if_pos he] at hst
        exact ⟨ret_int (by unfold M.check; rw [if_pos (by rw [hst]; exact he), hst]), HO2.out.trans ho3⟩
    · obtain rfl : k = fs.length := by omega
      have hf0 := hfe.out
      rw [List.drop_of_length_le (Nat.le_refl _), M.firstErr] at hf0
      have hbig : 32 < fs.length := by
        refine Nat.lt_of_not_le fun h => HNA.out (alls_of_chk (chk_of_first.1 hf0) (by omega))
      have HF0 := Lib.hid hf0
      clear hf0 hfe
      go_wp2
      go_ret
      exact ⟨ret_int (check_big HF0.out hbig).symm, HO.out⟩

end Go.Proofs.YtabcobadglgfkaaGreatDoor

/- What valid sets of files are, and that the calls keep them so. Nothing of the program stands here. -/
namespace Go.Proofs.YtabcobadglgfkaaGreatDoor

abbrev Asc (fs : List M.Fi) : Prop := fs.Pairwise fun a b => M.bl a.1 b.1 = true
/-- A valid list. -/
structure Valid (fs : List M.Fi) : Prop where
  chk : ∀ f ∈ fs, M.chk1 f = 0
  few : fs.length ≤ 32
  asc : Asc fs
  kin : ∀ f ∈ fs, ∀ g ∈ fs, M.below f.1 g.1 = false

theorem asc_pair : ∀ {fs : List M.Fi}, M.asc fs = true ↔ Asc fs
  | [] => ⟨fun _ => List.Pairwise.nil, fun _ => rfl⟩
  | [a] => ⟨fun _ => List.pairwise_singleton _ _, fun _ => rfl⟩
  | a :: b :: r => by
      rw [M.asc, Bool.and_eq_true, asc_pair (fs := b :: r)]
      constructor
      · rintro ⟨h1, h2⟩
        refine List.pairwise_cons.2 ⟨fun g hg => ?_, h2⟩
        rcases List.mem_cons.1 hg with rfl | hg
        · exact h1
        · exact M.bl_trans h1 ((List.pairwise_cons.1 h2).1 g hg)
      · intro h
        exact ⟨(List.pairwise_cons.1 h).1 b (by simp), (List.pairwise_cons.1 h).2⟩
theorem valid_iff {fs : List M.Fi} : M.check fs = 0 ↔ Valid fs := by
  unfold M.check
  constructor
  · intro h
    by_cases h1 : M.firstErr fs = 0
    · rw [if_neg (by rw [h1]; simp)] at h
      by_cases h2 : fs.length > 32
      · rw [if_pos h2] at h; cases h
      · rw [if_neg h2] at h
        split at h
        · rename_i h3
          refine ⟨chk_of_first.1 h1, by omega, asc_pair.1 h3.1, fun f hf g hg => ?_⟩
          have := List.any_eq_false.1 h3.2 f hf
          cases hb : M.below f.1 g.1 with
          | false => rfl
          | true => exact absurd (show M.kin fs f.1 = true from List.any_eq_true.2 ⟨g, hg, by rw [hb]; rfl⟩) this
        · cases h
    · rw [if_pos h1] at h; exact absurd h h1
  · rintro ⟨h1, h2, h3, h4⟩
    have h1' := chk_of_first.2 h1
    rw [if_neg (by rw [h1']; simp), if_neg (by omega), if_pos]
    refine ⟨asc_pair.2 h3, List.any_eq_false.2 fun f hf hk => ?_⟩
    obtain ⟨g, hg, hb⟩ := List.any_eq_true.1 hk
    rw [h4 f hf g hg, h4 g hg f hf] at hb
    cases hb
theorem Valid.alls {fs : List M.Fi} (h : Valid fs) : Alls fs := alls_of_chk h.chk (by have := h.few; omega)
theorem Valid.filter {fs : List M.Fi} (h : Valid fs) (p : M.Fi → Bool) : Valid (fs.filter p) :=
  ⟨fun f hf => h.chk f (List.mem_filter.1 hf).1, Nat.le_trans (List.length_filter_le _ _) h.few, h.asc.filter p, fun f hf g hg => h.kin f (List.mem_filter.1 hf).1 g (List.mem_filter.1 hg).1⟩
theorem Valid.without {fs : List M.Fi} (h : Valid fs) (s : List UInt8) : Valid (M.without fs s) := h.filter _

theorem path_ok {s : List UInt8} : M.path s = 0 ↔ s.length ≤ 48 ∧ M.scan [] s = true := by
  unfold M.path
  split
  · rename_i h; exact ⟨fun _ => h, fun _ => rfl⟩
  · rename_i h; exact ⟨fun e => (by cases e), fun e => absurd e h⟩
theorem path_not {s : List UInt8} (h : M.path s ≠ 0) : M.path s = 13 := by
  unfold M.path at h ⊢
  split
  · rename_i h2; rw [if_pos h2] at h; exact absurd rfl h
  · rfl
theorem chk_iff {f : M.Fi} : M.chk1 f = 0 ↔ M.path f.1 = 0 ∧ f.2.length ≤ 2048 :=
  ⟨fun h => ⟨(small_of_chk h).2.2, (small_of_chk h).2.1⟩, fun ⟨h1, h2⟩ => by unfold M.chk1; rw [if_neg (by rw [h1]; simp), if_neg (by omega)]⟩
theorem path_ne {s : List UInt8} (h : M.path s = 0) : s ≠ [] := by
  rintro rfl
  exact absurd (path_ok.1 h).2 (by decide)
theorem tail_path {p t : List UInt8} (h : M.path p = 0) (hb : M.below p t = true) : M.path (p.drop (t.length + 1)) = 0 ∧ p = t ++ 47 :: p.drop (t.length + 1) := by
  obtain ⟨x, _, rfl⟩ := (M.below_iff _ _).1 hb
  have e : (t ++ 47 :: x).drop (t.length + 1) = x := by simp
  rw [e]
  obtain ⟨h1, h2⟩ := path_ok.1 h
  rw [M.scan_join, Bool.and_eq_true] at h2
  exact ⟨path_ok.2 ⟨by simp at h1; omega, h2.2⟩, rfl⟩
theorem Valid.under {fs : List M.Fi} (h : Valid fs) (s : List UInt8) : Valid (M.under fs s) := by
  have hF := h.filter fun f => M.below f.1 s
  have hb : ∀ f ∈ (fs.filter fun f => M.below f.1 s), M.below f.1 s = true := fun f hf => (List.mem_filter.1 hf).2
  have ht : ∀ f ∈ (fs.filter fun f => M.below f.1 s), f.1 = s ++ 47 :: (M.tail s f).1 ∧ M.path (M.tail s f).1 = 0 := fun f hf => by
    have := tail_path (chk_iff.1 (hF.chk f hf)).1 (hb f hf)
    exact ⟨this.2, this.1⟩
  unfold M.under
  generalize (fs.filter fun f => M.below f.1 s) = F at *
  refine ⟨fun g hg => ?_, by rw [List.length_map]; exact hF.few, ?_, fun g hg g' hg' => ?_⟩
  · obtain ⟨f, hf, rfl⟩ := List.mem_map.1 hg
    exact chk_iff.2 ⟨(ht f hf).2, (chk_iff.1 (hF.chk f hf)).2⟩
  · refine List.pairwise_map.2 (hF.asc.imp_of_mem fun {a b} ha hb hab => ?_)
    rw [(ht a ha).1, (ht b hb).1, M.bl_append, M.bl_cons] at hab
    simpa using hab
  · obtain ⟨f, hf, rfl⟩ := List.mem_map.1 hg
    obtain ⟨f', hf', rfl⟩ := List.mem_map.1 hg'
    have := hF.kin f hf f' hf'
    rwa [(ht f hf).1, (ht f' hf').1, M.below_under] at this
theorem into_no {fs : List M.Fi} {s : List UInt8} (h : (M.into fs s).2 ≠ 0) : M.into fs s = ([], 13) := by
  unfold M.into at h ⊢
  split
  · rfl
  · rename_i h1
    rw [if_neg h1] at h
    split
    · rename_i h2; rw [if_pos h2] at h; exact absurd rfl h
    · rfl
theorem into_yes {fs : List M.Fi} {s : List UInt8} (h : (M.into fs s).2 = 0) : (M.into fs s).1 = fs.map (M.head s) ∧ ∀ f ∈ fs, M.path (M.head s f).1 = 0 := by
  unfold M.into at h ⊢
  split
  · rename_i h1; rw [if_pos h1] at h; cases h
  · rename_i h1
    rw [if_neg h1] at h
    split
    · rename_i h2
      exact ⟨rfl, fun f hf => by have := List.all_eq_true.1 h2 f hf; simpa using this⟩
    · rename_i h2; rw [if_neg h2] at h; cases h
theorem Valid.into {fs : List M.Fi} {s : List UInt8} (h : Valid fs) (he : (M.into fs s).2 = 0) : Valid (M.into fs s).1 := by
  obtain ⟨e, hp⟩ := into_yes he
  rw [e]
  refine ⟨fun g hg => ?_, by rw [List.length_map]; exact h.few, ?_, fun g hg g' hg' => ?_⟩
  · obtain ⟨f, hf, rfl⟩ := List.mem_map.1 hg
    exact chk_iff.2 ⟨hp f hf, (chk_iff.1 (h.chk f hf)).2⟩
  · refine List.pairwise_map.2 (h.asc.imp fun {a b} hab => ?_)
    show M.bl (s ++ 47 :: a.1) (s ++ 47 :: b.1) = true
    rw [M.bl_append, M.bl_cons, hab]
    simp
  · obtain ⟨f, hf, rfl⟩ := List.mem_map.1 hg
    obtain ⟨f', hf', rfl⟩ := List.mem_map.1 hg'
    show M.below (s ++ 47 :: f.1) (s ++ 47 :: f'.1) = false
    rw [M.below_under]
    exact h.kin f hf f' hf'
theorem under_into {fs : List M.Fi} {s : List UInt8} (h : Valid fs) (he : (M.into fs s).2 = 0) : M.under (M.into fs s).1 s = fs := by
  obtain ⟨e, _⟩ := into_yes he
  rw [e]
  unfold M.under
  have h1 : (fs.map (M.head s)).filter (fun f => M.below f.1 s) = fs.map (M.head s) := List.filter_eq_self.2 fun g hg => by
    obtain ⟨f, hf, rfl⟩ := List.mem_map.1 hg
    exact (M.below_iff _ _).2 ⟨f.1, path_ne (chk_iff.1 (h.chk f hf)).1, rfl⟩
  rw [h1, List.map_map]
  have h2 : (M.tail s ∘ M.head s) = id := by
    funext f
    show ((s ++ 47 :: f.1).drop (s.length + 1), f.2) = f
    have : (s ++ 47 :: f.1).drop (s.length + 1) = f.1 := by simp
    rw [this]
  rw [h2, List.map_id]

theorem get_asc {fs : List M.Fi} (h : Asc fs) {f : M.Fi} (hf : f ∈ fs) : M.get fs f.1 = (f.2, true) := by
  induction fs with
  | nil => cases hf
  | cons g r ih =>
    obtain ⟨h1, h2⟩ := List.pairwise_cons.1 h
    unfold M.get
    rcases List.mem_cons.1 hf with rfl | hf
    · rw [List.find?_cons_of_pos (by simp)]
    · have hne := M.bl_ne (h1 f hf)
      rw [List.find?_cons_of_neg (by simpa using hne)]
      exact ih h2 hf
theorem repl_paths : ∀ (fs : List M.Fi) (f : M.Fi), (M.repl fs f).map (·.1) = fs.map (·.1)
  | [], _ => rfl
  | g :: r, f => by
      rw [M.repl]
      by_cases h : g.1 = f.1
      · rw [if_pos (by simpa using h), List.map_cons, List.map_cons, h]
      · rw [if_neg (by simpa using h), List.map_cons, List.map_cons, repl_paths r f]
theorem repl_has : ∀ {fs : List M.Fi} {f : M.Fi}, M.has fs f.1 = true → f ∈ M.repl fs f
  | [], _, h => by cases h
  | g :: r, f, h => by
      rw [M.repl]
      by_cases hg : g.1 = f.1
      · rw [if_pos (by simpa using hg)]; simp
      · rw [if_neg (by simpa using hg)]
        refine List.mem_cons_of_mem _ (repl_has ?_)
        unfold M.has at h ⊢
        rw [List.any_cons, Bool.or_eq_true] at h
        rcases h with h | h
        · exact absurd (by simpa using h) hg
        · exact h
theorem repl_keeps : ∀ {fs : List M.Fi} {f g : M.Fi}, g ∈ fs → g.1 ≠ f.1 → g ∈ M.repl fs f
  | x :: r, f, g, h, hne => by
      rw [M.repl]
      by_cases hx : x.1 = f.1
      · rw [if_pos (by simpa using hx)]
        rcases List.mem_cons.1 h with rfl | h
        · exact absurd hx hne
        · exact List.mem_cons_of_mem _ h
      · rw [if_neg (by simpa using hx)]
        rcases List.mem_cons.1 h with rfl | h
        · simp
        · exact List.mem_cons_of_mem _ (repl_keeps h hne)
theorem ins_has : ∀ (fs : List M.Fi) (f : M.Fi), f ∈ M.ins fs f
  | [], _ => by simp [M.ins]
  | g :: r, f => by
      rw [M.ins]
      split
      · simp
      · exact List.mem_cons_of_mem _ (ins_has r f)
theorem ins_keeps : ∀ {fs : List M.Fi} {f g : M.Fi}, g ∈ fs → g ∈ M.ins fs f
  | x :: r, f, g, h => by
      rw [M.ins]
      split
      · exact List.mem_cons_of_mem _ h
      · rcases List.mem_cons.1 h with rfl | h
        · simp
        · exact List.mem_cons_of_mem _ (ins_keeps h)
theorem ins_asc : ∀ {fs : List M.Fi} {f : M.Fi}, Asc fs → (∀ g ∈ fs, g.1 ≠ f.1) → Asc (M.ins fs f)
  | [], f, _, _ => List.pairwise_singleton _ _
  | x :: r, f, h, hne => by
      obtain ⟨h1, h2⟩ := List.pairwise_cons.1 h
      rw [M.ins]
      split
      · rename_i hb
        refine List.pairwise_cons.2 ⟨fun g hg => ?_, h⟩
        rcases List.mem_cons.1 hg with rfl | hg
        · exact hb
        · exact M.bl_trans hb (h1 g hg)
      · rename_i hb
        refine List.pairwise_cons.2 ⟨fun g hg => ?_, ins_asc h2 (fun g hg => hne g (List.mem_cons_of_mem _ hg))⟩
        rcases ins_mem hg with hg | rfl
        · exact h1 g hg
        · exact M.bl_total (by simpa using hb) (fun e => hne x (by simp) e.symm)
theorem put_asc {fs : List M.Fi} {f : M.Fi} (h : Asc fs) : Asc (M.put fs f) := by
  unfold M.put
  by_cases hh : M.has fs f.1 = true
  · rw [if_pos hh]
    have := (List.pairwise_map (f := fun g : M.Fi => g.1) (R := fun a b => M.bl a b = true)).2 h
    rw [← repl_paths fs f] at this
    exact List.pairwise_map.1 this
  · rw [if_neg hh]
    refine ins_asc h fun g hg e => hh (List.any_eq_true.2 ⟨g, hg, by simpa using e⟩)
theorem put_has (fs : List M.Fi) (f : M.Fi) : f ∈ M.put fs f := by
  unfold M.put
  split
  · rename_i h; exact repl_has h
  · exact ins_has fs f
theorem put_keeps {fs : List M.Fi} {f g : M.Fi} (h : g ∈ fs) (hne : g.1 ≠ f.1) : g ∈ M.put fs f := by
  unfold M.put
  split
  · exact repl_keeps h hne
  · exact ins_keeps h
theorem put_from {fs : List M.Fi} {f g : M.Fi} (h : g ∈ M.put fs f) : g ∈ fs ∨ g = f := by
  unfold M.put at h
  split at h
  · exact repl_mem h
  · exact ins_mem h
theorem chk_range (f : M.Fi) : M.chk1 f = 0 ∨ M.chk1 f = 13 ∨ M.chk1 f = 15 := by
  unfold M.chk1
  split
  · simp
  · split <;> simp
theorem withF_no {fs : List M.Fi} {f : M.Fi} (h : (M.withF fs f).2 ≠ 0) : (M.withF fs f).2 = 13 ∨ (M.withF fs f).2 = 15 ∨ (M.withF fs f).2 = 16 := by
  unfold M.withF at h ⊢
  split
  · rename_i h1
    rcases chk_range f with h2 | h2 | h2
    · exact absurd h2 h1
    · exact Or.inl h2
    · exact Or.inr (Or.inl h2)
  · rename_i h1
    rw [if_neg h1] at h
    split
    · exact Or.inr (Or.inr rfl)
    · rename_i h2
      rw [if_neg h2] at h
      split
      · exact Or.inr (Or.inl rfl)
      · rename_i h3; rw [if_neg h3] at h; exact absurd rfl h
theorem withF_yes {fs : List M.Fi} {f : M.Fi} (h : (M.withF fs f).2 = 0) : (M.withF fs f).1 = M.put fs f ∧ M.chk1 f = 0 ∧ M.kin fs f.1 = false ∧ (M.put fs f).length ≤ 32 := by
  unfold M.withF at h ⊢
  by_cases h1 : M.chk1 f ≠ 0
  · rw [if_pos h1] at h; exact absurd h h1
  · rw [if_neg h1] at h ⊢
    by_cases h2 : M.kin fs f.1 = true
    · rw [if_pos h2] at h; cases h
    · rw [if_neg h2] at h ⊢
      by_cases h3 : (M.put fs f).length > 32
      · rw [if_pos h3] at h; cases h
      · rw [if_neg h3]
        exact ⟨rfl, Decidable.of_not_not h1, by simpa using h2, by omega⟩
theorem Valid.withF {fs : List M.Fi} {f : M.Fi} (h : Valid fs) (he : (M.withF fs f).2 = 0) : Valid (M.withF fs f).1 ∧ M.get (M.withF fs f).1 f.1 = (f.2, true) ∧ ∀ g ∈ fs, g.1 ≠ f.1 → M.get (M.withF fs f).1 g.1 = (g.2, true) := by
  obtain ⟨e, h1, h2, h3⟩ := withF_yes he
  rw [e]
  have ha := put_asc (f := f) h.asc
  have hk : ∀ g ∈ fs, M.below f.1 g.1 = false ∧ M.below g.1 f.1 = false := fun g hg => by
    have := List.any_eq_false.1 h2 g hg
    simpa using this
  refine ⟨⟨fun g hg => ?_, h3, ha, fun g hg g' hg' => ?_⟩, get_asc ha (put_has fs f), fun g hg hne => get_asc ha (put_keeps hg hne)⟩
  · rcases put_from hg with hg | rfl
    · exact h.chk g hg
    · exact h1
  · rcases put_from hg with h4 | rfl
    · rcases put_from hg' with h5 | rfl
      · exact h.kin g h4 g' h5
      · exact (hk g h4).2
    · rcases put_from hg' with h5 | rfl
      · exact (hk g' h5).1
      · exact M.below_self _
end Go.Proofs.YtabcobadglgfkaaGreatDoor
