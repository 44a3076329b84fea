/- The program's files apart from a path, and below one. -/
import Derived.Test.YtcmbmbdjdkldoaaDoorPathsF
import Derived.StillTailTactics
namespace Go.Proofs.YtcmbmbdjdkldoaaDoor
open Go.RowKit

theorem without_any (v : Value) (fs : List M.Fi) (s : List UInt8) (w : World) (h : Fl w v fs) (hf : Alls fs) (hs : s.length ≤ 1099511627776) :
    Calls Tryd.prog 28 #[v, S s] w fun e w' => ∃ u, e = .returned u ∧ Own w.heap.size w' u (M.without fs s) ∧ Old w w' := by
  have hb : (w.alloc (.cells #[S s] 9)).cell? ⟨w.heap.size, 0, none⟩ = some (S s) := (Blk.new w #[S s] 9).cellN 0 rfl
  have HC := Lib.hid (leaveOut_any 46 #[.pointer (some ⟨w.heap.size, 0, none⟩)] enter_without _ v fs _ (h.old (Old.alloc w (.cells #[S s] 9))) hf (without1 s hs w.heap.size _ hb))
  clear hb h
  go_enter Tryd.func28, Tryd.ntmps28
  go_wp2_with ((with_reducible refine HC.out.mono ?_); rintro e w1 ⟨u, rfl, hown, ho1⟩)
  go_ret
  exact ⟨_, rfl, hown.mono (by simp), (Old.alloc w _).trans ho1⟩

theorem row_set {B sz : Nat} {w : World} {e : TypeId} {g n cap : Nat} {xs : List Value} (h : w.ownsRow B e sz (.slice (some ⟨g, 0, none⟩) n cap) n xs) {i : Nat} (_ : i < xs.length) (v : Value) :
    (w.setCell ⟨g, i, none⟩ v).ownsRow B e sz (.slice (some ⟨g, 0, none⟩) n cap) n (xs.set i v) := by
  obtain ⟨h1, ⟨hv, _⟩ | ⟨g', cap', cur, hv, hg, hb, hcap, hmax, hsz, htake⟩⟩ := h
  · cases hv
  · have e1 : g' = g := by injection hv with h1 h2 h3; injection h1 with h1; injection h1 with h1; exact h1.symm
    have e2 : cap' = cap := by injection hv with h1 h2 h3; exact h3.symm
    subst e1; subst e2
    refine ⟨by rw [List.length_set]; exact h1, Or.inr ⟨g', cap', cur.setIfInBounds i v, rfl, hg, heap_setCell_same w g' i cur e v hb, hcap, hmax, by simpa using hsz, ?_⟩⟩
    rw [Array.toList_setIfInBounds, List.take_set, htake]
theorem row_cell {B sz : Nat} {w : World} {e : TypeId} {g n cap : Nat} {xs : List Value} (h : w.ownsRow B e sz (.slice (some ⟨g, 0, none⟩) n cap) n xs) (i : Nat) (hi : i < xs.length) : w.cell? ⟨g, i, none⟩ = some xs[i] ∧ w.frozen? ⟨g, i, none⟩ = false := by
  obtain ⟨h1, ⟨hv, _⟩ | ⟨g', cap', cur, hv, hg, hb, hcap, hmax, hsz, htake⟩⟩ := h
  · cases hv
  · have e1 : g' = g := by injection hv with h1 h2 h3; injection h1 with h1; injection h1 with h1; exact h1.symm
    subst e1
    refine ⟨?_, by simp [World.frozen?, hb]⟩
    have : w.cell? ⟨g', i, none⟩ = cur[i]? := by simp [World.cell?, hb]
    rw [this, ← List.getElem?_eq_getElem hi, ← htake, List.getElem?_take, if_pos (by omega)]
    simp
theorem row_at {B sz : Nat} {w : World} {e : TypeId} {v : Value} {n : Nat} {xs : List Value} (h : w.ownsRow B e sz v n xs) (hn : 0 < n) : ∃ g cap, v = .slice (some ⟨g, 0, none⟩) n cap ∧ B ≤ g := by
  obtain ⟨_, ⟨_, h0⟩ | ⟨g, cap, cur, hv, hg, _⟩⟩ := h
  · omega
  · exact ⟨g, cap, hv, hg⟩
theorem Old.setNew {a w : World} (h : Old a w) {p : Addr} (hp : a.heap.size ≤ p.block) (v : Value) : Old a (w.setCell p v) := Below.setCell h hp v

theorem cells_set1 (fs : List M.Fi) (j : Nat) (h : j < fs.length) (s : List UInt8) : (cells fs).set (j * 2) (S s) = cells (fs.set j (s, fs[j].2)) := by
  rw [← cells_set]
  simp only
  have e := (cells_at fs j h).2
  have hl : j * 2 + 1 < ((cells fs).set (j * 2) (S s)).length := by rw [List.length_set, cells_len]; omega
  apply List.ext_getElem?
  intro i
  rw [List.getElem?_set (i := j * 2 + 1)]
  split
  · rename_i hi
    subst hi
    rw [List.getElem?_set, if_neg (by omega), e]
  · rfl
theorem extract_drop (l : List UInt8) (n : Nat) : (⟨⟨l⟩⟩ : ByteArray).extract n l.length = ⟨⟨l.drop n⟩⟩ := by
  have := Lib.extract_to_end (⟨⟨l⟩⟩ : ByteArray) n
  exact ba_eq this

/-- The first k files of l with the path's part taken off. -/
def tails (s : List UInt8) (l : List M.Fi) (k : Nat) : List M.Fi := (l.take k).map (M.tail s) ++ l.drop k
theorem tails_len (s : List UInt8) (l : List M.Fi) (k : Nat) (hk : k ≤ l.length) : (tails s l k).length = l.length := by simp [tails]; omega
theorem tails_at (s : List UInt8) (l : List M.Fi) (k : Nat) (hk : k < l.length) : (tails s l k)[k]? = some l[k] := by
  unfold tails
  rw [List.getElem?_append_right (by simp; omega)]
  simp
  rw [Nat.min_eq_left (by omega), Nat.sub_self, Nat.add_zero, List.getElem?_eq_getElem hk]
theorem tails_step (s : List UInt8) (l : List M.Fi) (k : Nat) (hk : k < l.length) : (tails s l k).set k (M.tail s l[k]) = tails s l (k + 1) := by
  unfold tails
  rw [List.set_append_right _ _ (by simp; omega), List.take_succ_eq_append_getElem hk, List.map_append, List.append_assoc, List.drop_eq_getElem_cons hk]
  congr 1
  simp
  rw [Nat.min_eq_left (by omega), Nat.sub_self, List.drop_eq_getElem_cons hk]
  rfl

set_option maxHeartbeats 2000000 in
set_option maxRecDepth 100000 in
theorem under_any (v : Value) (fs : List M.Fi) (s : List UInt8) (w : World) (h : Fl w v fs) (hf : Alls fs) (hs : s.length ≤ 1099511627776) :
    Calls Tryd.prog 30 #[v, S s] w fun e w' => ∃ u, e = .returned u ∧ Own w.heap.size w' u (M.under fs s) ∧ Old w w' := by
  have hb : (w.alloc (.cells #[S s] 9)).cell? ⟨w.heap.size, 0, none⟩ = some (S s) := (Blk.new w #[S s] 9).cellN 0 rfl
  have HC := Lib.hid (leaveOut_any 48 #[.pointer (some ⟨w.heap.size, 0, none⟩)] enter_under _ v fs _ (h.old (Old.alloc w (.cells #[S s] 9))) hf (under1 s hs w.heap.size _ hb))
  have hlF : (fs.filter fun f => !(!M.below f.1 s)).length ≤ 1099511627776 := Nat.le_trans (List.length_filter_le _ _) hf.1
  have hbF : ∀ f ∈ (fs.filter fun f => !(!M.below f.1 s)), M.below f.1 s = true ∧ f.1.length ≤ 1099511627776 := fun f hfm => by
    rw [List.mem_filter] at hfm
    exact ⟨by simpa using hfm.2, (hf.2 f hfm.1).1⟩
  have hU : M.under fs s = (fs.filter fun f => !(!M.below f.1 s)).map (M.tail s) := by unfold M.under; simp
  rw [hU]
  clear hU h hf
  generalize (fs.filter fun f => !(!M.below f.1 s)) = F at *
  have HBF := Lib.hid hbF
  have HB := Lib.hid hb
  have hsz := size_mk s
  clear hbF hb
  go_enter Tryd.func30, Tryd.ntmps30
  go_wp2_with fail
  refine HC.out.mono ?_
  rintro e w1 ⟨u, rfl, hown, ho1⟩
  obtain ⟨p, cap, rfl⟩ := hown.fl.len
  have HOWN := Lib.hid (show Own w.heap.size w1 (.slice p F.length cap) (tails s F 0) from by
    have : tails s F 0 = F := by simp [tails]
    rw [this]; exact hown.mono (by simp))
  have HOW := Lib.hid (show Old w w1 from (Old.alloc w _).trans ho1)
  have HB1 := Lib.hid (show w1.cell? ⟨w.heap.size, 0, none⟩ = some (S s) from (ho1.cell (p := ⟨w.heap.size, 0, none⟩) (by simp)).trans HB.out)
  have HGN := Lib.hid (show ∀ g, (Value.slice p F.length cap).ownBlock = some g → w.heap.size + 1 ≤ g from by have := row_from hown; simpa using this)
  clear hown ho1 HC HB
  go_wp2
  go_loopw [6, 12] (fun _ i wr => ∃ k : Nat, k ≤ F.length ∧ i = .int .i64 k ∧ Own w.heap.size wr (.slice p F.length cap) (tails s F k) ∧ Old w wr ∧ wr.cell? ⟨w.heap.size, 0, none⟩ = some (S s)) (fun _ i _ => F.length - (intOf i).toNat)
  case atStart => exact ⟨0, Nat.zero_le _, rfl, HOWN.out, HOW.out, HB1.out⟩
  case round =>
    obtain ⟨k, hk, rfl, hown, ho, hcs⟩ := hrel
    have HO := Lib.hid ho
    have HOWN := Lib.hid hown
    clear ho hown
    by_cases hlt : k < F.length
    · obtain ⟨g, cap', hv, hg⟩ := row_at HOWN.out (by rw [tails_len _ _ _ hk]; omega)
      obtain ⟨rfl, rfl⟩ : p = some ⟨g, 0, none⟩ ∧ cap = cap' := by injection hv with h1 h2 h3; exact ⟨h1, h3⟩
      clear hv
      have hgn : w.heap.size ≠ g := by have := HGN.out g rfl; omega
      have HA := Lib.hid (tails_at s F k hlt)
      have hlc : (cells (tails s F k)).length = F.length * 2 := by rw [cells_len, tails_len _ _ _ hk]
      have hrow : wr.ownsRow w.heap.size 36 2 (.slice (some ⟨g, 0, none⟩) F.length cap) F.length (cells (tails s F k)) := by have := HOWN.out; unfold Own at this; rwa [tails_len _ _ _ hk] at this
      obtain ⟨c0, f0⟩ := row_cell hrow (k * 2) (by omega)
      have hx : (cells (tails s F k))[k * 2]'(by omega) = S F[k].1 := by
        have e := (cells_at (tails s F k) k (by rw [tails_len _ _ _ hk]; exact hlt)).1
        have e2 : (tails s F k)[k]'(by rw [tails_len _ _ _ hk]; exact hlt) = F[k] := by have := HA.out; rw [List.getElem?_eq_getElem (by rw [tails_len _ _ _ hk]; exact hlt)] at this; exact Option.some.inj this
        rw [e2, List.getElem?_eq_getElem (by omega)] at e
        exact Option.some.inj e
      rw [hx] at c0
      have HST := Lib.hid (row_set hrow (i := k * 2) (by omega) (S (F[k].1.drop (s.length + 1))))
      have hset := cells_set1 (tails s F k) k (by rw [tails_len _ _ _ hk]; exact hlt) (F[k].1.drop (s.length + 1))
      have htl : (tails s F k).set k (F[k].1.drop (s.length + 1), ((tails s F k)[k]'(by rw [tails_len _ _ _ hk]; exact hlt)).2) = tails s F (k + 1) := by
        have e2 : (tails s F k)[k]'(by rw [tails_len _ _ _ hk]; exact hlt) = F[k] := by have := HA.out; rw [List.getElem?_eq_getElem (by rw [tails_len _ _ _ hk]; exact hlt)] at this; exact Option.some.inj this
        rw [e2]
        exact tails_step s F k hlt
      rw [htl] at hset
      have HSET := Lib.hid hset
      clear hset htl hx hlc
      obtain ⟨hbel, hxm⟩ := HBF.out F[k] (List.getElem_mem hlt)
      have hxl : s.length + 1 < F[k].1.length := by unfold M.below at hbel; simp only [Bool.and_eq_true, decide_eq_true_eq] at hbel; exact hbel.1.1
      clear hbel hrow HA
      generalize F[k].1 = x at *
      have hxs := size_mk x
      have l1 : (0 : Int) ≤ (s.length : Int) + 1 := by omega
      have l2 : (s.length : Int) + 1 ≤ (x.length : Int) := by omega
      have l3 : ((s.length : Int) + 1).toNat = s.length + 1 := by omega
      have l4 : IntKind.i64.wrap ((s.length : Int) + 1) = (s.length : Int) + 1 := IntWalk.i64_in _ (by omega)
      have hex := extract_drop x (s.length + 1)
      go_wp2
      go_still_tail 13, (by kernel_rfl)
      change wpList _ _ _ _ _ wr.drew
      go_wp2
      go_roundw
      case rel =>
        refine ⟨k + 1, by omega, by go_num, ?_, (HO.out.setNew (p := ⟨g, k * 2, none⟩) hg _).drew, ?_⟩
        · show World.ownsRow _ w.heap.size 36 2 _ (tails s F (k + 1)).length (cells (tails s F (k + 1)))
          rw [tails_len _ _ _ (by omega), ← HSET.out]
          exact HST.out
        · have hb : (wr.setCell ⟨g, k * 2, none⟩ (S (List.drop (s.length + 1) x))).heap[w.heap.size]? = wr.heap[w.heap.size]? := heap_setCell_other wr ⟨g, k * 2, none⟩ w.heap.size _ hgn
          exact (World.cell?_of_block (a := ⟨w.heap.size, 0, none⟩) hb).trans hcs
      case measure => simp [intOf]; omega
    · obtain rfl : k = F.length := by omega
      have ht : tails s F F.length = F.map (M.tail s) := by simp [tails]
      rw [ht] at HOWN
      go_wp2
      go_ret
      exact ⟨_, rfl, HOWN.out, HO.out⟩
end Go.Proofs.YtcmbmbdjdkldoaaDoor
