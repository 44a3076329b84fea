/- Merged of: PathsG PathsH PathsI PathsJ PathsK PathsL PathsN PathsO PathsQ PathsR PathsS PathsT PathsU PathsV. -/
import Derived.Test.YtabcobadglgfkaaGreatDoorMF1
import Derived.StillTailTactics
import Derived.Lib.SliceRun
import Derived.Lib.Overlaps
import Derived.Lib.AppendZerosOnto
import Derived.Lib.AppendZeros
import Derived.Laws.Concat
import Derived.Deep.CutBlock
import Derived.Laws.StructEq
import Derived.BigQuiet
import Derived.Deep.RegionLaw
/- The program's files apart from a path, and below one. -/
namespace Go.Proofs.YtabcobadglgfkaaGreatDoor
open Go.RowKit

theorem row_set {B sz : Nat} {w : World} {e : TypeId} {g n cap : Nat} {xs : List Value} (h : w.ownsRow B e sz (.slice (some ⟨g, 0, none⟩) n cap) n xs) {i : Nat} (_ : i < xs.length) (v : Value) :
    (w.setCell ⟨g, i, none⟩ v).ownsRow B e sz (.slice (some ⟨g, 0, none⟩) n cap) n (xs.set i v) := by
  obtain ⟨h1, ⟨hv, _⟩ | ⟨g', cap', cur, hv, hg, hb, hcap, hmax, hsz, htake⟩⟩ := h
  · cases hv
  · have e1 : g' = g := by injection hv with h1 h2 h3; injection h1 with h1; injection h1 with h1; exact h1.symm
    have e2 : cap' = cap := by injection hv with h1 h2 h3; exact h3.symm
    subst e1; subst e2
    refine ⟨by rw [List.length_set]; exact h1, Or.inr ⟨g', cap', cur.setIfInBounds i v, rfl, hg, heap_setCell_same w g' i cur e v hb, hcap, hmax, by simpa using hsz, ?_⟩⟩
    rw [Array.toList_setIfInBounds, List.take_set, htake]
theorem row_cell {B sz : Nat} {w : World} {e : TypeId} {g n cap : Nat} {xs : List Value} (h : w.ownsRow B e sz (.slice (some ⟨g, 0, none⟩) n cap) n xs) (i : Nat) (hi : i < xs.length) : w.cell? ⟨g, i, none⟩ = some xs[i] ∧ w.frozen? ⟨g, i, none⟩ = false := by
  obtain ⟨h1, ⟨hv, _⟩ | ⟨g', cap', cur, hv, hg, hb, hcap, hmax, hsz, htake⟩⟩ := h
  · cases hv
  · have e1 : g' = g := by injection hv with h1 h2 h3; injection h1 with h1; injection h1 with h1; exact h1.symm
    subst e1
    refine ⟨?_, by simp [World.frozen?, hb]⟩
    have : w.cell? ⟨g', i, none⟩ = cur[i]? := by simp [World.cell?, hb]
    rw [this, ← List.getElem?_eq_getElem hi, ← htake, List.getElem?_take, if_pos (by omega)]
    simp
theorem row_at {B sz : Nat} {w : World} {e : TypeId} {v : Value} {n : Nat} {xs : List Value} (h : w.ownsRow B e sz v n xs) (hn : 0 < n) : ∃ g cap, v = .slice (some ⟨g, 0, none⟩) n cap ∧ B ≤ g := by
  obtain ⟨_, ⟨_, h0⟩ | ⟨g, cap, cur, hv, hg, _⟩⟩ := h
  · omega
  · exact ⟨g, cap, hv, hg⟩
theorem Old.setNew {a w : World} (h : Old a w) {p : Addr} (hp : a.heap.size ≤ p.block) (v : Value) : Old a (w.setCell p v) := Below.setCell h hp v

theorem cells_set1 (fs : List M.Fi) (j : Nat) (h : j < fs.length) (s : List UInt8) : (cells fs).set (j * 2) (S s) = cells (fs.set j (s, fs[j].2)) := by
  rw [← cells_set]
  simp only
  have e := (cells_at fs j h).2
  have hl : j * 2 + 1 < ((cells fs).set (j * 2) (S s)).length := by rw [List.length_set, cells_len]; omega
  apply List.ext_getElem?
  intro i
  rw [List.getElem?_set (i := j * 2 + 1)]
  split
  · rename_i hi
    subst hi
    rw [List.getElem?_set, if_neg (by omega), e]
  · rfl
theorem extract_drop (l : List UInt8) (n : Nat) : (⟨⟨l⟩⟩ : ByteArray).extract n l.length = ⟨⟨l.drop n⟩⟩ := by
  have := Lib.extract_to_end (⟨⟨l⟩⟩ : ByteArray) n
  exact ba_eq this

/-- The first k files of l with the path's part taken off. -/
def tails (s : List UInt8) (l : List M.Fi) (k : Nat) : List M.Fi := (l.take k).map (M.tail s) ++ l.drop k
theorem tails_len (s : List UInt8) (l : List M.Fi) (k : Nat) (hk : k ≤ l.length) : (tails s l k).length = l.length := by simp [tails]; omega
theorem tails_at (s : List UInt8) (l : List M.Fi) (k : Nat) (hk : k < l.length) : (tails s l k)[k]? = some l[k] := by
  unfold tails
  rw [List.getElem?_append_right (by simp; omega)]
  simp
  rw [Nat.min_eq_left (by omega), Nat.sub_self, Nat.add_zero, List.getElem?_eq_getElem hk]
theorem tails_step (s : List UInt8) (l : List M.Fi) (k : Nat) (hk : k < l.length) : (tails s l k).set k (M.tail s l[k]) = tails s l (k + 1) := by
  unfold tails
  rw [List.set_append_right _ _ (by simp; omega), List.take_succ_eq_append_getElem hk, List.map_append, List.append_assoc, List.drop_eq_getElem_cons hk]
  congr 1
  simp
  rw [Nat.min_eq_left (by omega), Nat.sub_self, List.drop_eq_getElem_cons hk]
  rfl

set_option maxHeartbeats 2000000 in
set_option maxRecDepth 100000 in
theorem under_any (v : Value) (fs : List M.Fi) (s : List UInt8) (w : World) (h : Fl w v fs) (hf : Alls fs) (hs : s.length ≤ 1099511627776) :
    Calls Tryz.prog 31 #[v, S s] w fun e w' => ∃ u, e = .returned u ∧ Own w.heap.size w' u (M.under fs s) ∧ Old w w' := by
  have hb : (w.alloc (.cells #[S s] 9)).cell? ⟨w.heap.size, 0, none⟩ = some (S s) := (Blk.new w #[S s] 9).cellN 0 rfl
  have HC := Lib.hid (leaveOut_any 68 #[.pointer (some ⟨w.heap.size, 0, none⟩)] enter_under _ v fs _ (h.old (Old.alloc w (.cells #[S s] 9))) hf (under1 s hs w.heap.size _ hb))
  have hlF : (fs.filter fun f => !(!M.below f.1 s)).length ≤ 1099511627776 := Nat.le_trans (List.length_filter_le _ _) hf.1
  have hbF : ∀ f ∈ (fs.filter fun f => !(!M.below f.1 s)), M.below f.1 s = true ∧ f.1.length ≤ 1099511627776 := fun f hfm => by
    rw [List.mem_filter] at hfm
    exact ⟨by simpa using hfm.2, (hf.2 f hfm.1).1⟩
  have hU : M.under fs s = (fs.filter fun f => !(!M.below f.1 s)).map (M.tail s) := by unfold M.under; simp
  rw [hU]
  clear hU h hf
  generalize (fs.filter fun f => !(!M.below f.1 s)) = F at *
  have HBF := Lib.hid hbF
  have HB := Lib.hid hb
  have hsz := size_mk s
  clear hbF hb
  go_enter Tryz.func31, Tryz.ntmps31
  go_wp2_with fail
  refine HC.out.mono ?_
  rintro e w1 ⟨u, rfl, hown, ho1⟩
  obtain ⟨p, cap, rfl⟩ := hown.fl.len
  have HOWN := Lib.hid (show Own w.heap.size w1 (.slice p F.length cap) (tails s F 0) from by
    have : tails s F 0 = F := by simp [tails]
    rw [this]; exact hown.mono (by simp))
  have HOW := Lib.hid (show Old w w1 from (Old.alloc w _).trans ho1)
  have HB1 := Lib.hid (show w1.cell? ⟨w.heap.size, 0, none⟩ = some (S s) from (ho1.cell (p := ⟨w.heap.size, 0, none⟩) (by simp)).trans HB.out)
  have HGN := Lib.hid (show ∀ g, (Value.slice p F.length cap).ownBlock = some g → w.heap.size + 1 ≤ g from by have := row_from hown; simpa using this)
  clear hown ho1 HC HB
  go_wp2
  go_loopw [6, 12] (fun _ i wr => ∃ k : Nat, k ≤ F.length ∧ i = .int .i64 k ∧ Own w.heap.size wr (.slice p F.length cap) (tails s F k) ∧ Old w wr ∧ wr.cell? ⟨w.heap.size, 0, none⟩ = some (S s)) (fun _ i _ => F.length - (intOf i).toNat)
  case atStart => exact ⟨0, Nat.zero_le _, rfl, HOWN.out, HOW.out, HB1.out⟩
  case round =>
    obtain ⟨k, hk, rfl, hown, ho, hcs⟩ := hrel
    have HO := Lib.hid ho
    have HOWN := Lib.hid hown
    clear ho hown
    by_cases hlt : k < F.length
    · obtain ⟨g, cap', hv, hg⟩ := row_at HOWN.out (by rw [tails_len _ _ _ hk]; omega)
      obtain ⟨rfl, rfl⟩ : p = some ⟨g, 0, none⟩ ∧ cap = cap' := by injection hv with h1 h2 h3; exact ⟨h1, h3⟩
      clear hv
      have hgn : w.heap.size ≠ g := by have := HGN.out g rfl; omega
      have HA := Lib.hid (tails_at s F k hlt)
      have hlc : (cells (tails s F k)).length = F.length * 2 := by rw [cells_len, tails_len _ _ _ hk]
      have hrow : wr.ownsRow w.heap.size 54 2 (.slice (some ⟨g, 0, none⟩) F.length cap) F.length (cells (tails s F k)) := by have := HOWN.out; unfold Own at this; rwa [tails_len _ _ _ hk] at this
      obtain ⟨c0, f0⟩ := row_cell hrow (k * 2) (by omega)
      have hx : (cells (tails s F k))[k * 2]'(by omega) = S F[k].1 := by
        have e := (cells_at (tails s F k) k (by rw [tails_len _ _ _ hk]; exact hlt)).1
        have e2 : (tails s F k)[k]'(by rw [tails_len _ _ _ hk]; exact hlt) = F[k] := by have := HA.out; rw [List.getElem?_eq_getElem (by rw [tails_len _ _ _ hk]; exact hlt)] at this; exact Option.some.inj this
        rw [e2, List.getElem?_eq_getElem (by omega)] at e
        exact Option.some.inj e
      rw [hx] at c0
      have HST := Lib.hid (row_set hrow (i := k * 2) (by omega) (S (F[k].1.drop (s.length + 1))))
      have hset := cells_set1 (tails s F k) k (by rw [tails_len _ _ _ hk]; exact hlt) (F[k].1.drop (s.length + 1))
      have htl : (tails s F k).set k (F[k].1.drop (s.length + 1), ((tails s F k)[k]'(by rw [tails_len _ _ _ hk]; exact hlt)).2) = tails s F (k + 1) := by
        have e2 : (tails s F k)[k]'(by rw [tails_len _ _ _ hk]; exact hlt) = F[k] := by have := HA.out; rw [List.getElem?_eq_getElem (by rw [tails_len _ _ _ hk]; exact hlt)] at this; exact Option.some.inj this
        rw [e2]
        exact tails_step s F k hlt
      rw [htl] at hset
      have HSET := Lib.hid hset
      clear hset htl hx hlc
      obtain ⟨hbel, hxm⟩ := HBF.out F[k] (List.getElem_mem hlt)
      have hxl : s.length + 1 < F[k].1.length := by unfold M.below at hbel; simp only [Bool.and_eq_true, decide_eq_true_eq] at hbel; exact hbel.1.1
      clear hbel hrow HA
      generalize F[k].1 = x at *
      have hxs := size_mk x
      have l1 : (0 : Int) ≤ (s.length : Int) + 1 := by omega
      have l2 : (s.length : Int) + 1 ≤ (x.length : Int) := by omega
      have l3 : ((s.length : Int) + 1).toNat = s.length + 1 := by omega
      have l4 : IntKind.i64.wrap ((s.length : Int) + 1) = (s.length : Int) + 1 := IntWalk.i64_in _ (by omega)
      have hex := extract_drop x (s.length + 1)
      go_wp2
      go_still_tail 13, (by kernel_rfl)
      change wpList _ _ _ _ _ wr.drew
      go_wp2
      go_roundw
      case rel =>
        refine ⟨k + 1, by omega, by go_num, ?_, (HO.out.setNew (p := ⟨g, k * 2, none⟩) hg _).drew, ?_⟩
        · show World.ownsRow _ w.heap.size 54 2 _ (tails s F (k + 1)).length (cells (tails s F (k + 1)))
          rw [tails_len _ _ _ (by omega), ← HSET.out]
          exact HST.out
        · have hb : (wr.setCell ⟨g, k * 2, none⟩ (S (List.drop (s.length + 1) x))).heap[w.heap.size]? = wr.heap[w.heap.size]? := heap_setCell_other wr ⟨g, k * 2, none⟩ w.heap.size _ hgn
          exact (World.cell?_of_block (a := ⟨w.heap.size, 0, none⟩) hb).trans hcs
      case measure => simp [intOf]; omega
    · obtain rfl : k = F.length := by omega
      have ht : tails s F F.length = F.map (M.tail s) := by simp [tails]
      rw [ht] at HOWN
      go_wp2
      go_ret
      exact ⟨_, rfl, HOWN.out, HO.out⟩
end Go.Proofs.YtabcobadglgfkaaGreatDoor

/- The library's Clone of files, and copies of cells, two for each file. -/
namespace Go.Proofs.YtabcobadglgfkaaGreatDoor
open Go.RowKit

theorem run_copy_row_k {P : Program} (sz : Nat) (w : World) (dT sT ty elem : TypeId) (g o dLen dCap : Nat) (a : Addr) (sLen sCap : Nat) (cur : Array Value) (t : TypeId) (cs : List Value)
    (hu : P.underlying dT = some (.slice elem)) (hs : (P.info? elem).map (·.size) = some sz)
    (hg : w.heap[g]? = some (.cells cur t (0, 0))) (hn : cs.length = Nat.min sLen dLen * sz)
    (hsrc : ∀ j v, cs[j]? = some v → w.cell? (a.add j) = some v) (hfit : o + cs.length ≤ cur.size) (h1 : ∀ v ∈ cs, v.oneCell' = true) :
    (Builtin.copy_ #[dT, sT] ty #[.slice (some ⟨g, o, none⟩) dLen dCap, .slice (some a) sLen sCap]).run P w =
      .ok (goInt (Nat.min sLen dLen)) (w.setRow g (cur.toList.take o ++ cs ++ cur.toList.drop (o + cs.length)).toArray) := by
  have hl := run_loadCells_list (P := P) w a cs hsrc
  have hst := run_storeCells_at P g o t cs 0 cur w hg (by simpa using hfit) h1
  cases hq : P.info? elem with
  | none => simp [hq] at hs
  | some i =>
    have hi : i.size = sz := by simpa [hq] using hs
    simp [Builtin.copy_, run_underlying hu, Builtin.lenOf, Builtin.firstCells, sizeOf, typeInfo, hq, hi, ← hn, hl, hst]
end Go.Proofs.YtabcobadglgfkaaGreatDoor

/- The library's Insert of one file into a list that the call owns. -/
namespace Go.Proofs.YtabcobadglgfkaaGreatDoor
open Go.RowKit

theorem ins_row (L : List Value) (fs : List M.Fi) (f : M.Fi) (i : Nat) (hi : i < fs.length) (hL : L.take (fs.length * 2) = cells fs) (hl : (fs.length + 1) * 2 ≤ L.length) :
    (L.take ((i + 1) * 2) ++ cells (fs.drop i) ++ L.drop ((i + 1) * 2 + (cells (fs.drop i)).length)).length = L.length ∧
    ∀ A, A = L.take ((i + 1) * 2) ++ cells (fs.drop i) ++ L.drop ((i + 1) * 2 + (cells (fs.drop i)).length) →
      (A.take (i * 2) ++ [S f.1, S f.2] ++ A.drop (i * 2 + 2)).length = L.length ∧ (A.take (i * 2) ++ [S f.1, S f.2] ++ A.drop (i * 2 + 2)).take ((fs.length + 1) * 2) = cells (fs.take i ++ f :: fs.drop i) := by
  have hc : (cells (fs.drop i)).length = (fs.length - i) * 2 := by rw [cells_len]; simp
  have h1 : (L.take ((i + 1) * 2) ++ cells (fs.drop i) ++ L.drop ((i + 1) * 2 + (cells (fs.drop i)).length)).length = L.length := by
    simp only [List.length_append, List.length_take, List.length_drop, hc]; omega
  refine ⟨h1, ?_⟩
  rintro A hA
  have hAl : A.length = L.length := by rw [hA]; exact h1
  have t1 : A.take (i * 2) = cells (fs.take i) := by
    rw [hA, List.append_assoc, List.take_append_of_le_length (by simp; omega), List.take_take, Nat.min_eq_left (by omega), ← cells_take, ← hL, List.take_take, Nat.min_eq_left (by omega)]
  have t2 : A.drop (i * 2 + 2) = cells (fs.drop i) ++ L.drop ((i + 1) * 2 + (cells (fs.drop i)).length) := by
    rw [hA, List.append_assoc, List.drop_append, List.drop_eq_nil_of_le (by simp; omega), List.nil_append, show i * 2 + 2 - (L.take ((i + 1) * 2)).length = 0 by simp; omega, List.drop_zero]
  constructor
  · simp only [List.length_append, List.length_take, List.length_drop, hAl, List.length_cons, List.length_nil]; omega
  · rw [t1, t2, show cells (fs.take i) ++ [S f.1, S f.2] ++ (cells (fs.drop i) ++ L.drop ((i + 1) * 2 + (cells (fs.drop i)).length)) = (cells (fs.take i) ++ [S f.1, S f.2] ++ cells (fs.drop i)) ++ L.drop ((i + 1) * 2 + (cells (fs.drop i)).length) by simp,
      List.take_append_of_le_length (by simp [hc, cells_len]; omega), List.take_of_length_le (by simp [hc, cells_len]; omega), cells_append, cells_cons]
    simp
theorem ins_row2 (L : List Value) (fs : List M.Fi) (f : M.Fi) (i : Nat) (hi : i < fs.length) (hL : L.take (i * 2) = cells (fs.take i)) (hl : (fs.length + 1) * 2 ≤ L.length) :
    (L.take (i * 2) ++ [S f.1, S f.2] ++ L.drop (i * 2 + 2)).length = L.length ∧
    ∀ A, A = L.take (i * 2) ++ [S f.1, S f.2] ++ L.drop (i * 2 + 2) →
      (A.take ((i + 1) * 2) ++ cells (fs.drop i) ++ A.drop ((i + 1) * 2 + (cells (fs.drop i)).length)).length = L.length ∧
      (A.take ((i + 1) * 2) ++ cells (fs.drop i) ++ A.drop ((i + 1) * 2 + (cells (fs.drop i)).length)).take ((fs.length + 1) * 2) = cells (fs.take i ++ f :: fs.drop i) := by
  have hc : (cells (fs.drop i)).length = (fs.length - i) * 2 := by rw [cells_len]; simp
  have h1 : (L.take (i * 2) ++ [S f.1, S f.2] ++ L.drop (i * 2 + 2)).length = L.length := by
    simp only [List.length_append, List.length_take, List.length_drop, List.length_cons, List.length_nil]; omega
  refine ⟨h1, ?_⟩
  rintro A hA
  have hAl : A.length = L.length := by rw [hA]; exact h1
  have t1 : A.take ((i + 1) * 2) = cells (fs.take i) ++ [S f.1, S f.2] := by
    rw [hA, hL, List.take_append_of_le_length (by simp [cells_len]; omega), List.take_of_length_le (by simp [cells_len]; omega)]
  constructor
  · simp only [List.length_append, List.length_take, List.length_drop, hAl, hc]; omega
  · rw [t1, List.take_append_of_le_length (by simp [hc, cells_len]; omega), List.take_of_length_le (by simp [hc, cells_len]; omega), cells_append, cells_cons]
    simp

theorem size2 : (Tryz.prog.info? 54).map (·.size) = some 2 := by kernel_rfl

end Go.Proofs.YtabcobadglgfkaaGreatDoor

/- The library's Insert of one file into a list that the call owns: where there is no room; wherever. -/
namespace Go.Proofs.YtabcobadglgfkaaGreatDoor
open Go.RowKit

theorem zero_len (z : Value) (k : Nat) : (Builtin.zeroCells z.cells k).size = k * z.cells.size := by simp [Builtin.zeroCells]

end Go.Proofs.YtabcobadglgfkaaGreatDoor

/- The program's files with one more. -/
namespace Go.Proofs.YtabcobadglgfkaaGreatDoor
open Go.RowKit

theorem repl_set : ∀ (fs : List M.Fi) (f : M.Fi) (k : Nat) (hk : k < fs.length), (fs[k].1 == f.1) = true → (∀ j (hj : j < fs.length), j < k → (fs[j].1 == f.1) = false) → M.repl fs f = fs.set k f
  | g :: r, f, 0, _, h, _ => by
      have h' : (g.1 == f.1) = true := h
      rw [M.repl, if_pos h']; rfl
  | g :: r, f, k + 1, hk, h, hn => by
      have h0 : (g.1 == f.1) = false := hn 0 (by simp) (by omega)
      rw [M.repl, if_neg (by rw [h0]; simp), List.set_cons_succ, repl_set r f k (by simpa using hk) h (fun j hj hjk => hn (j + 1) (by simpa using hj) (by omega))]
theorem ins_take : ∀ (fs : List M.Fi) (f : M.Fi) (k : Nat) (hk : k < fs.length), (∀ g ∈ fs, (g.1 == f.1) = false) → (!(M.bl fs[k].1 f.1 || fs[k].1 == f.1)) = true → (∀ j (hj : j < fs.length), j < k → (!(M.bl fs[j].1 f.1 || fs[j].1 == f.1)) = false) → M.ins fs f = fs.take k ++ f :: fs.drop k
  | g :: r, f, 0, _, hne, h, _ => by
      have h0 : (!(M.bl g.1 f.1 || g.1 == f.1)) = true := h
      have h1 := hne g (by simp)
      have hb : M.bl f.1 g.1 = true := M.bl_total (by rw [h1] at h0; simpa using h0) (fun e => by rw [e] at h1; simp at h1)
      rw [M.ins, if_pos hb]; rfl
  | g :: r, f, k + 1, hk, hne, h, hn => by
      have h0 : (!(M.bl g.1 f.1 || g.1 == f.1)) = false := hn 0 (by simp) (by omega)
      have h1 := hne g (by simp)
      rw [h1] at h0
      have h2 : M.bl g.1 f.1 = true := by simpa using h0
      rw [M.ins, if_neg (by rw [M.bl_asymm h2]; simp), ins_take r f k (by simpa using hk) (fun x hx => hne x (by simp [hx])) h (fun j hj hjk => hn (j + 1) (by simpa using hj) (by omega))]
      rfl
theorem ins_last : ∀ (fs : List M.Fi) (f : M.Fi), (∀ g ∈ fs, (g.1 == f.1) = false) → (∀ g ∈ fs, (!(M.bl g.1 f.1 || g.1 == f.1)) = false) → M.ins fs f = fs ++ [f]
  | [], f, _, _ => rfl
  | g :: r, f, hne, h => by
      have h0 := h g (by simp)
      rw [hne g (by simp)] at h0
      have h2 : M.bl g.1 f.1 = true := by simpa using h0
      rw [M.ins, if_neg (by rw [M.bl_asymm h2]; simp), ins_last r f (fun x hx => hne x (by simp [hx])) (fun x hx => h x (by simp [hx]))]
      rfl

end Go.Proofs.YtabcobadglgfkaaGreatDoor

/- The program's With, Into and Union. -/
namespace Go.Proofs.YtabcobadglgfkaaGreatDoor
open Go.RowKit

end Go.Proofs.YtabcobadglgfkaaGreatDoor

/- The program's files put below a path. -/
namespace Go.Proofs.YtabcobadglgfkaaGreatDoor
open Go.RowKit

/-- The first k files of l with the path ahead. -/
def heads (s : List UInt8) (l : List M.Fi) (k : Nat) : List M.Fi := (l.take k).map (M.head s) ++ l.drop k
theorem heads_len (s : List UInt8) (l : List M.Fi) (k : Nat) (hk : k ≤ l.length) : (heads s l k).length = l.length := by simp [heads]; omega
theorem heads_at (s : List UInt8) (l : List M.Fi) (k : Nat) (hk : k < l.length) : (heads s l k)[k]? = some l[k] := by
  unfold heads
  rw [List.getElem?_append_right (by simp; omega)]
  simp
  rw [Nat.min_eq_left (by omega), Nat.sub_self, Nat.add_zero, List.getElem?_eq_getElem hk]
theorem heads_step (s : List UInt8) (l : List M.Fi) (k : Nat) (hk : k < l.length) : (heads s l k).set k (M.head s l[k]) = heads s l (k + 1) := by
  unfold heads
  rw [List.set_append_right _ _ (by simp; omega), List.take_succ_eq_append_getElem hk, List.map_append, List.append_assoc, List.drop_eq_getElem_cons hk]
  congr 1
  simp
  rw [Nat.min_eq_left (by omega), Nat.sub_self, List.drop_eq_getElem_cons hk]
  rfl
theorem ba_append (a b : List UInt8) : ((⟨⟨a⟩⟩ : ByteArray) ++ ⟨⟨b⟩⟩) = ⟨⟨a ++ b⟩⟩ := by
  apply ba_inj
  simp

end Go.Proofs.YtabcobadglgfkaaGreatDoor

/- The program's files with others. -/
namespace Go.Proofs.YtabcobadglgfkaaGreatDoor
open Go.RowKit

theorem repl_mem : ∀ {fs : List M.Fi} {f g : M.Fi}, g ∈ M.repl fs f → g ∈ fs ∨ g = f
  | [], f, g, h => by simp [M.repl] at h
  | x :: r, f, g, h => by
      rw [M.repl] at h
      split at h
      · rcases List.mem_cons.1 h with h | h
        · exact Or.inr h
        · exact Or.inl (by simp [h])
      · rcases List.mem_cons.1 h with h | h
        · exact Or.inl (by simp [h])
        · rcases repl_mem h with h | h
          · exact Or.inl (by simp [h])
          · exact Or.inr h
theorem ins_mem : ∀ {fs : List M.Fi} {f g : M.Fi}, g ∈ M.ins fs f → g ∈ fs ∨ g = f
  | [], f, g, h => by
      rw [M.ins, List.mem_singleton] at h
      exact Or.inr h
  | x :: r, f, g, h => by
      rw [M.ins] at h
      split at h
      · rcases List.mem_cons.1 h with h | h
        · exact Or.inr h
        · exact Or.inl h
      · rcases List.mem_cons.1 h with h | h
        · exact Or.inl (by simp [h])
        · rcases ins_mem h with h | h
          · exact Or.inl (by simp [h])
          · exact Or.inr h
theorem put_mem {fs : List M.Fi} {f g : M.Fi} (h : g ∈ M.put fs f) : g ∈ fs ∨ g = f := by
  unfold M.put at h
  split at h
  · exact repl_mem h
  · exact ins_mem h
theorem with_alls {fs : List M.Fi} {f : M.Fi} (h : Alls fs) (hf : Small f) (he : (M.withF fs f).2 = 0) : Alls (M.withF fs f).1 := by
  unfold M.withF at he ⊢
  split at he
  · rename_i h1; exact absurd he h1
  · split at he
    · cases he
    · split at he
      · cases he
      · rename_i h1 h2 h3
        rw [if_neg h1, if_neg h2, if_neg h3]
        refine ⟨by simp only; omega, fun g hg => ?_⟩
        rcases put_mem hg with hg | hg
        · exact h.2 g hg
        · rw [hg]; exact hf

end Go.Proofs.YtabcobadglgfkaaGreatDoor

/- The document's paths, names and what is below. -/
namespace Go.Proofs.YtabcobadglgfkaaGreatDoor
open Go.RowKit

theorem rbelow_any (p t : List UInt8) (_ : p.length ≤ 1099511627776) (ht : t.length ≤ 1099511627776) (w : World) :
    Calls Tryz.prog 77 #[S p, S t] w fun e w' => e = .returned (.bool (M.below p t)) ∧ w' = w := by
  have h1 := size_mk p
  have h2 := size_mk t
  have HB := Lib.hid (show M.below p t = (decide (t.length + 1 < p.length) && (p[t.length]? == some 47) && (p.take t.length == t)) from rfl)
  by_cases hlt : t.length + 1 < p.length
  · obtain ⟨c, hgt⟩ : ∃ c, ∀ h, (⟨⟨p⟩⟩ : ByteArray)[t.length]'h = c := ⟨p[t.length], fun _ => rfl⟩
    have HC := Lib.hid (show p[t.length]? = some c by rw [List.getElem?_eq_getElem (by omega)]; exact congrArg some (hgt (by rw [h1]; omega)))
    have hcl := c.toNat_lt
    have hex : (⟨⟨p⟩⟩ : ByteArray).extract 0 t.length = ⟨⟨p.take t.length⟩⟩ := ba_eq (by rw [Lib.extract_data]; simp)
    have l1 : (t.length : Int) ≤ (p.length : Int) := by omega
    rw [decide_eq_true hlt, Bool.true_and, HC.out] at HB
    by_cases hq : p.take t.length = t
    · have e1 : (p.take t.length == t) = true := by rw [hq]; simp
      rw [e1, Bool.and_true] at HB
      by_cases hc : c.toNat = 47
      · have HX := Lib.hid (show (some c == some (47 : UInt8)) = true by rw [UInt8.toNat_inj.1 (show c.toNat = (47 : UInt8).toNat from hc)]; rfl)
        clear hq
        go_enter Tryz.func77, Tryz.ntmps77
        go_wp2
        go_ret
        exact ⟨ret_bool (by rw [HB.out, HX.out]), rfl⟩
      · have HX := Lib.hid (show (some c == some (47 : UInt8)) = false from beq_eq_false_iff_ne.2 (fun e => hc (by rw [Option.some.inj e]; rfl)))
        clear hq
        go_enter Tryz.func77, Tryz.ntmps77
        go_wp2
        go_ret
        exact ⟨ret_bool (by rw [HB.out, HX.out]; simp; omega), rfl⟩
    · have e1 : (p.take t.length == t) = false := beq_eq_false_iff_ne.2 hq
      rw [e1, Bool.and_false] at HB
      clear hq
      go_enter Tryz.func77, Tryz.ntmps77
      go_wp2
      go_ret
      exact ⟨ret_bool HB.out.symm, rfl⟩
  · go_enter Tryz.func77, Tryz.ntmps77
    go_wp2
    go_ret
    exact ⟨ret_bool (by rw [HB.out, decide_eq_false hlt]; rfl), rfl⟩

end Go.Proofs.YtabcobadglgfkaaGreatDoor

/- The document's paths. -/
namespace Go.Proofs.YtabcobadglgfkaaGreatDoor
open Go.RowKit

theorem okPart_bytes {p : List UInt8} (h : p.all M.okByte = false) : M.okPart p = false := by
  unfold M.okPart
  rw [h, Bool.and_false]
theorem scan_bad : ∀ (r cur : List UInt8), cur.all M.okByte = false → M.scan cur r = false
  | [], cur, h => okPart_bytes h
  | c :: r, cur, h => by
      rw [M.scan]
      split
      · rw [okPart_bytes h, Bool.false_and]
      · exact scan_bad r _ (by rw [List.all_append, h, Bool.false_and])
theorem path_no {s : List UInt8} (h : M.scan [] s = false) : M.path s = 13 := by
  unfold M.path
  rw [if_neg]
  rintro ⟨_, h2⟩
  rw [h] at h2
  cases h2
theorem path_yes {s : List UInt8} (hl : s.length ≤ 48) (h : M.scan [] s = true) : M.path s = 0 := by
  unfold M.path
  rw [if_pos ⟨hl, h⟩]
theorem extract_mid (l : List UInt8) (a k : Nat) : (⟨⟨l⟩⟩ : ByteArray).extract a k = ⟨⟨(l.take k).drop a⟩⟩ := ba_eq (by rw [Lib.extract_data]; simp [List.drop_take])
theorem part_tests (p : List UInt8) (h : p.all M.okByte = true) : M.okPart p = !(p.isEmpty || p == [46] || p == [46, 46]) := by
  unfold M.okPart
  rw [h, Bool.and_true]
  cases p <;> simp

/-- Where the document's reader of a path stands. -/
def Reads (s : List UInt8) (a k : Nat) : Prop :=
  (k ≤ s.length ∧ a ≤ k ∧ M.scan [] s = M.scan ((s.take k).drop a) (s.drop k) ∧ ((s.take k).drop a).all M.okByte = true) ∨ (k = s.length + 1 ∧ a ≤ k ∧ M.scan [] s = true)
theorem Reads.start (s : List UInt8) : Reads s 0 0 := Or.inl ⟨Nat.zero_le _, Nat.le_refl _, by simp, by simp⟩
theorem take_drop_succ {s : List UInt8} {a k : Nat} (hk : k < s.length) (ha : a ≤ k) : (s.take (k + 1)).drop a = (s.take k).drop a ++ [s[k]] := by
  rw [List.take_succ_eq_append_getElem hk, List.drop_append_of_le_length (by simp; omega)]

set_option maxHeartbeats 4000000 in
set_option maxRecDepth 100000 in
theorem rpath_any (s : List UInt8) (hl : s.length ≤ maxLen) (w : World) :
    Calls Tryz.prog 83 #[S s] w fun e w' => e = .returned (.int .i64 (M.path s)) ∧ w' = w := by
  unfold maxLen at hl
  have hsz := size_mk s
  by_cases h1 : s.length < 1
  · go_enter Tryz.func83, Tryz.ntmps83
    go_wp2
    go_ret
    exact ⟨ret_int (path_no (by rw [List.eq_nil_of_length_eq_zero (show s.length = 0 by omega)]; rfl)).symm, rfl⟩
  by_cases h2 : 48 < s.length
  · go_enter Tryz.func83, Tryz.ntmps83
    go_wp2
    go_ret
    exact ⟨ret_int (by unfold M.path; rw [if_neg (by omega)]), rfl⟩
  go_enter Tryz.func83, Tryz.ntmps83
  go_wp2
  go_loopw [3, 4] (fun o i wr => ∃ a k : Nat, o = .int .i64 a ∧ i = .int .i64 k ∧ wr = w ∧ k ≤ s.length + 1 ∧ Hid (Reads s a k)) (fun _ i _ => s.length + 1 - (intOf i).toNat)
  case atStart => exact ⟨0, 0, rfl, rfl, rfl, Nat.zero_le _, Lib.hid (Reads.start s)⟩
  case round =>
    obtain ⟨a, k, rfl, rfl, rfl, hk, hr⟩ := hrel
    by_cases hend : k = s.length + 1
    · subst hend
      have hx : M.scan [] s = true := by
        rcases hr.out with ⟨h, _⟩ | ⟨_, _, h⟩
        · omega
        · exact h
      have hle : ¬ ((s.length : Int) + 1 ≤ (s.length : Int)) := by omega
      have HP := Lib.hid (path_yes (by omega) hx)
      clear hx
      go_wp2
      go_ret
      exact ⟨ret_int HP.out.symm, rfl⟩
    · obtain ⟨ha, hsc, hok⟩ : a ≤ k ∧ M.scan [] s = M.scan ((s.take k).drop a) (s.drop k) ∧ ((s.take k).drop a).all M.okByte = true := by
        rcases hr.out with ⟨_, h⟩ | ⟨h, _⟩
        · exact h
        · omega
      have hle : (k : Int) ≤ (s.length : Int) := by omega
      have hpt := part_tests _ hok
      have hex := extract_mid s a k
      have i1 : (a : Int) ≤ (k : Int) := by omega
      by_cases hlt : k < s.length
      · obtain ⟨c, hgt⟩ : ∃ c, ∀ h, (⟨⟨s⟩⟩ : ByteArray)[k]'h = c := ⟨s[k], fun _ => rfl⟩
        have hc : s[k] = c := hgt hlt
        rw [List.drop_eq_getElem_cons hlt, hc, M.scan] at hsc
        have hcl := c.toNat_lt
        by_cases hc47 : c.toNat = 47
        · rw [if_pos (UInt8.toNat_inj.1 (show c.toNat = (47 : UInt8).toNat from hc47))] at hsc
          have HNEXT := Lib.hid (show M.okPart ((s.take k).drop a) = true → Reads s (k + 1) (k + 1) from fun h => Or.inl ⟨by omega, Nat.le_refl _, by rw [hsc, h]; simp, by simp⟩)
          have HBAD := Lib.hid (show M.okPart ((s.take k).drop a) = false → M.path s = 13 from fun h => path_no (by rw [hsc, h]; rfl))
          clear hsc hok hr hc
          generalize (s.take k).drop a = p at *
          by_cases q1 : p = []
          · subst q1
            have HB := Lib.hid (HBAD.out rfl)
            clear HBAD HNEXT hpt
            go_wp2
            go_ret
            exact ⟨ret_int HB.out.symm, rfl⟩
          by_cases q2 : p = [46]
          · subst q2
            have HB := Lib.hid (HBAD.out rfl)
            clear HBAD HNEXT hpt
            go_wp2
            go_ret
            exact ⟨ret_int HB.out.symm, rfl⟩
          by_cases q3 : p = [46, 46]
          · subst q3
            have HB := Lib.hid (HBAD.out rfl)
            clear HBAD HNEXT hpt
            go_wp2
            go_ret
            exact ⟨ret_int HB.out.symm, rfl⟩
          have e1 : p.isEmpty = false := by simpa using q1
          have e2 : (p == [46]) = false := beq_eq_false_iff_ne.2 q2
          have e3 : (p == [46, 46]) = false := beq_eq_false_iff_ne.2 q3
          have HN := Lib.hid (HNEXT.out (by rw [hpt, e1, e2, e3]; rfl))
          clear q1 q2 q3 hpt HNEXT HBAD
          go_wp2
          go_roundw
          case rel => exact ⟨k + 1, k + 1, by go_num, by go_num, trivial, by omega, HN⟩
          case measure => simp [intOf]; omega
        · rw [if_neg (fun e => hc47 (by rw [e]; rfl))] at hsc
          by_cases hb : M.okByte c = true
          · have hb1 : 33 ≤ c.toNat ∧ c.toNat ≤ 126 := by unfold M.okByte at hb; simpa using hb
            have HN := Lib.hid (show Reads s a (k + 1) from Or.inl ⟨by omega, by omega, by rw [hsc, take_drop_succ hlt ha, hc], by rw [take_drop_succ hlt ha, hc, List.all_append, hok]; simp [hb]⟩)
            have hlo : ¬ ((c.toNat : Int) < 33) := by omega
            have hhi : ¬ ((126 : Int) < (c.toNat : Int)) := by omega
            have hne : ¬ ((c.toNat : Int) = 47) := by omega
            clear hsc hok hr hc hpt hex hb hb1
            go_wp2
            go_roundw
            case rel => exact ⟨a, k + 1, by go_num, by go_num, trivial, by omega, HN⟩
            case measure => simp [intOf]; omega
          · have hb0 : M.okByte c = false := by simpa using hb
            have hb1 : c.toNat < 33 ∨ 126 < c.toNat := by
              unfold M.okByte at hb0
              rw [Bool.and_eq_false_iff, decide_eq_false_iff_not, decide_eq_false_iff_not] at hb0
              omega
            have HB := Lib.hid (path_no (s := s) (by rw [hsc]; exact scan_bad _ _ (by rw [List.all_append]; simp [hb0])))
            have hne : ¬ ((c.toNat : Int) = 47) := by omega
            clear hsc hok hr hc hpt hex hb hb0
            rcases hb1 with hb1 | hb1
            · have hlo : (c.toNat : Int) < 33 := by omega
              go_wp2
              go_ret
              exact ⟨ret_int HB.out.symm, rfl⟩
            · have hlo : ¬ ((c.toNat : Int) < 33) := by omega
              have hhi : (126 : Int) < (c.toNat : Int) := by omega
              go_wp2
              go_ret
              exact ⟨ret_int HB.out.symm, rfl⟩
      · obtain rfl : k = s.length := by omega
        rw [List.drop_of_length_le (Nat.le_refl _), M.scan] at hsc
        have HNEXT := Lib.hid (show M.okPart ((s.take s.length).drop a) = true → Reads s (s.length + 1) (s.length + 1) from fun h => Or.inr ⟨rfl, Nat.le_refl _, by rw [hsc, h]⟩)
        have HBAD := Lib.hid (show M.okPart ((s.take s.length).drop a) = false → M.path s = 13 from fun h => path_no (by rw [hsc, h]))
        clear hsc hok hr
        generalize (s.take s.length).drop a = p at *
        by_cases q1 : p = []
        · subst q1
          have HB := Lib.hid (HBAD.out rfl)
          clear HBAD HNEXT hpt
          go_wp2
          go_ret
          exact ⟨ret_int HB.out.symm, rfl⟩
        by_cases q2 : p = [46]
        · subst q2
          have HB := Lib.hid (HBAD.out rfl)
          clear HBAD HNEXT hpt
          go_wp2
          go_ret
          exact ⟨ret_int HB.out.symm, rfl⟩
        by_cases q3 : p = [46, 46]
        · subst q3
          have HB := Lib.hid (HBAD.out rfl)
          clear HBAD HNEXT hpt
          go_wp2
          go_ret
          exact ⟨ret_int HB.out.symm, rfl⟩
        have e1 : p.isEmpty = false := by simpa using q1
        have e2 : (p == [46]) = false := beq_eq_false_iff_ne.2 q2
        have e3 : (p == [46, 46]) = false := beq_eq_false_iff_ne.2 q3
        have HN := Lib.hid (HNEXT.out (by rw [hpt, e1, e2, e3]; rfl))
        clear q1 q2 q3 hpt HNEXT HBAD
        go_wp2
        go_roundw
        case rel => exact ⟨s.length + 1, s.length + 1, by go_num, by go_num, trivial, by omega, HN⟩
        case measure => simp [intOf]
end Go.Proofs.YtabcobadglgfkaaGreatDoor

/- The document's Same and Get. -/
namespace Go.Proofs.YtabcobadglgfkaaGreatDoor
open Go.RowKit

theorem drewN_add (w : World) (n m : Nat) : (w.drewN n).drewN m = w.drewN (n + m) := by simp [World.drewN, Nat.add_assoc]
theorem guard_file : Tryz.prog.eqGuardType Tryz.prog.depth 54 = false := by kernel_rfl
theorem neq_file (f g : M.Fi) (w : World) : Sem.run Tryz.prog (binOp .neq 54 (fv f) (fv g)) w = .ok (.bool (!decide (f = g))) w := by
  have u3 := Tryz.underlying9
  have hS : Tryz.prog.underlying 54 = some (.struct (Tryz.prog.fieldsOf 54)) := by kernel_rfl
  have hp : Tryz.prog.stoodInHeld 54 = false := by kernel_rfl
  rw [run_neq_struct, show (10000 : Nat) = 9999 + 1 from rfl, run_equalIn_agg w 9999 54 _ _ hS hp]
  simp only [Program.fieldsOf, Tryz.underlying54]
  have a3 := Tryz.isAgg9
  have z3 := Tryz.sizeOf9
  go_simp
  obtain ⟨f1, f2⟩ := f
  obtain ⟨g1, g2⟩ := g
  by_cases h1 : f1 = g1 <;> by_cases h2 : f2 = g2 <;> simp [h1, h2]

set_option maxHeartbeats 1000000 in
set_option maxRecDepth 100000 in
theorem same_any (v u : Value) (fs gs : List M.Fi) (w : World) (h : Fl w v fs) (h2 : Fl w u gs) (hl : fs.length ≤ maxLen) (_ : gs.length ≤ maxLen) :
    Calls Tryz.prog 18 #[v, u] w fun e w' => e = .returned (.bool (decide (fs = gs))) ∧ ∃ n, w' = w.drewN n := by
  unfold maxLen at hl
  obtain ⟨p, cap, rfl⟩ := h.len
  obtain ⟨p2, cap2, rfl⟩ := h2.len
  have H := Lib.hid h
  have H2 := Lib.hid h2
  clear h h2
  by_cases he : fs.length = gs.length
  · have hei : (fs.length : Int) = (gs.length : Int) := by omega
    go_enter Tryz.func18, Tryz.ntmps18
    go_wp2
    go_loopw [5] (fun i wr => ∃ k n : Nat, k ≤ fs.length ∧ i = .int .i64 k ∧ wr = w.drewN n ∧ Hid (∀ j (hj : j < fs.length), j < k → fs[j] = gs[j]'(by omega))) (fun i _ => fs.length - (intOf i).toNat)
    case atStart => exact ⟨0, 0, Nat.zero_le _, rfl, rfl, Lib.hid (fun j _ h => absurd h (Nat.not_lt_zero _))⟩
    case round =>
      obtain ⟨k, n, hk, rfl, rfl, hall⟩ := hrel
      by_cases hlt : k < fs.length
      · obtain ⟨b, off, rfl, hb, hc⟩ := (H.out.drewN n).at (by intro h; rw [h] at hlt; exact absurd hlt (Nat.not_lt_zero _))
        obtain ⟨b2, off2, rfl, hb2, hd⟩ := (H2.out.drewN n).at (by intro h; rw [h, List.length_nil] at he; omega)
        obtain ⟨c0, c1⟩ := hc k hlt
        obtain ⟨d0, d1⟩ := hd k (by omega)
        have HN := Lib.hid (show ∀ e : fs[k] = gs[k]'(by omega), ∀ j (hj : j < fs.length), j < k + 1 → fs[j] = gs[j]'(by omega) from fun e j hj hjk => by
          by_cases hjk2 : j = k
          · subst hjk2; exact e
          · exact hall.out j hj (by omega))
        have HNO := Lib.hid (show fs[k] ≠ gs[k]'(by omega) → decide (fs = gs) = false from fun e => decide_eq_false (fun h => e (by simp only [h])))
        have hlt2 : (k : Int) < (gs.length : Int) := by omega
        clear hc hd hb hb2
        generalize hf : fs[k] = f at *
        generalize (gs[k]'(by omega)) = g at *
        have hneq := neq_file f g
        have hgd := guard_file
        clear hf
        generalize hwq : w.drewN n = wq at *
        have HW := Lib.hid hwq
        clear hwq
        by_cases hfg : f = g
        · rw [decide_eq_true hfg] at hneq
          have HN' := Lib.hid (HN.out hfg)
          clear hfg HN
          go_wp2
          go_quiet (fail)
          go_wp2
          go_roundw
          case rel => exact ⟨k + 1, n + nq, by omega, by go_num, by rw [← HW.out, drewN_add], HN'⟩
          case measure => simp [intOf]; omega
        · rw [decide_eq_false hfg] at hneq
          have HN' := Lib.hid (HNO.out hfg)
          clear hfg HN
          go_wp2
          go_quiet (fail)
          go_wp2
          go_ret
          exact ⟨ret_bool HN'.out.symm, n + nq, by rw [← HW.out, drewN_add]⟩
      · obtain rfl : k = fs.length := by omega
        go_wp2
        go_ret
        exact ⟨ret_bool (decide_eq_true (List.ext_getElem he (fun j h1 h2 => hall.out j h1 h1))).symm, n, rfl⟩
  · have hei : ¬ ((fs.length : Int) = (gs.length : Int)) := by omega
    go_enter Tryz.func18, Tryz.ntmps18
    go_wp2
    go_ret
    exact ⟨ret_bool (decide_eq_false (fun h => he (by rw [h]))).symm, 0, rfl⟩

set_option maxHeartbeats 1000000 in
set_option maxRecDepth 100000 in
theorem rget_any (v : Value) (fs : List M.Fi) (s : List UInt8) (w : World) (h : Fl w v fs) (hlen : fs.length ≤ maxLen) :
    Calls Tryz.prog 36 #[v, S s] w fun e w' => e = .returned (.tuple #[S (M.get fs s).1, .bool (M.get fs s).2]) ∧ w' = w := by
  unfold maxLen at hlen
  obtain ⟨p, cap, rfl⟩ := h.len
  have H := Lib.hid h
  clear h
  go_enter Tryz.func36, Tryz.ntmps36
  go_wp2
  go_loopw [6] (fun i wr => ∃ k : Nat, k ≤ fs.length ∧ i = .int .i64 k ∧ wr = w ∧ Hid (M.get fs s = M.get (fs.drop k) s)) (fun i _ => fs.length - (intOf i).toNat)
  case atStart => exact ⟨0, Nat.zero_le _, rfl, rfl, Lib.hid rfl⟩
  case round =>
    obtain ⟨k, hk, rfl, rfl, hg⟩ := hrel
    by_cases hlt : k < fs.length
    · obtain ⟨b, off, rfl, hb, hc⟩ := H.out.at (by intro h; rw [h] at hlt; exact absurd hlt (Nat.not_lt_zero _))
      obtain ⟨c0, c1⟩ := hc k hlt
      have hgo := hg.out
      rw [List.drop_eq_getElem_cons hlt] at hgo
      clear hc hb hg
      generalize fs[k] = f at *
      by_cases he : f.1 = s
      · have e1 : (f.1 == s) = true := by rw [beq_list, decide_eq_true he]
        have HG := Lib.hid (show M.get fs s = (f.2, true) by rw [hgo]; unfold M.get; rw [List.find?_cons_of_pos (by exact e1)])
        clear he hgo
        go_wp2
        go_ret2
        rw [HG.out]
        exact ⟨rfl, rfl⟩
      · have e1 : (f.1 == s) = false := by rw [beq_list, decide_eq_false he]
        have HG := Lib.hid (show M.get fs s = M.get (fs.drop (k + 1)) s by rw [hgo]; unfold M.get; rw [List.find?_cons_of_neg (by rw [e1]; simp)])
        clear he hgo
        go_wp2
        go_roundw
        case rel => exact ⟨k + 1, by omega, by go_num, trivial, HG⟩
        case measure => simp [intOf]; omega
    · obtain rfl : k = fs.length := by omega
      have hgo := hg.out
      rw [List.drop_of_length_le (Nat.le_refl _)] at hgo
      go_wp2
      go_ret2
      rw [hgo]
      exact ⟨rfl, rfl⟩
end Go.Proofs.YtabcobadglgfkaaGreatDoor

/- The document's files apart from a path, and below one. -/
namespace Go.Proofs.YtabcobadglgfkaaGreatDoor
open Go.RowKit

theorem two_plain (s d : List UInt8) : ∀ u ∈ ([S s, S d] : List Value), u.oneCell' = true := by
  intro u hu
  simp only [List.mem_cons, List.not_mem_nil, or_false] at hu
  rcases hu with rfl | rfl <;> rfl
/-- What an append of one file's cells leaves. -/
theorem Own.grown {B : Nat} {a w w2 : World} {u v' : Value} {acc : List M.Fi} {f : M.Fi} (h : Own B w u acc) (ha : a.heap.size ≤ B) (ho : Old a w) (h1 : w2.ownsRow B 54 2 v' (acc.length + 1) (cells acc ++ [S f.1, S f.2])) (h2 : w.grownBy w2 u.ownBlock) : Own B w2 v' (acc ++ [f]) ∧ Old a w2 := by
  refine ⟨?_, Keep.old ((Keep.of_old (S := fun _ => False) ho).grown h2 (fun q hq => Or.inl (Nat.le_trans ha (row_from h q hq)))) (fun _ _ h => h)⟩
  show w2.ownsRow B 54 2 v' (acc ++ [f]).length (cells (acc ++ [f]))
  rw [cells_append, cells_one, List.length_append]
  exact h1

set_option maxHeartbeats 2000000 in
set_option maxRecDepth 100000 in
theorem runder_any (v : Value) (fs : List M.Fi) (s : List UInt8) (w : World) (h : Fl w v fs) (hf : Alls fs) (hs : s.length ≤ 1099511627776) :
    Calls Tryz.prog 39 #[v, S s] w fun e w' => ∃ u, e = .returned u ∧ Own w.heap.size w' u (M.under fs s) ∧ Old w w' := by
  obtain ⟨i0, hi, hz0, hz1, hz2⟩ := info_parts infoFile
  obtain ⟨hlen, hok⟩ := hf
  obtain ⟨pp, cap, rfl⟩ := h.len
  have H := Lib.hid h
  have HOK := Lib.hid hok
  have hsz := size_mk s
  clear h hok
  go_enter Tryz.func39, Tryz.ntmps39
  go_wp2
  go_loopw [5, 6] (fun o i wr => ∃ k : Nat, k ≤ fs.length ∧ i = .int .i64 k ∧ Own w.heap.size wr o (M.under (fs.take k) s) ∧ Old w wr) (fun _ i _ => fs.length - (intOf i).toNat)
  case atStart => exact ⟨0, Nat.zero_le _, rfl, Own.nil _ _, Below.refl _ _⟩
  case round =>
    obtain ⟨k, hk, rfl, hown, ho⟩ := hrel
    have HO := Lib.hid ho
    have HOWN := Lib.hid hown
    clear ho hown
    by_cases hlt : k < fs.length
    · obtain ⟨b, off, rfl, hb, hc⟩ := (H.out.old HO.out).at (by intro h; rw [h] at hlt; exact absurd hlt (Nat.not_lt_zero _))
      obtain ⟨c0, c1⟩ := hc k hlt
      have hft := filter_take (q := fun f => M.below f.1 s) hlt
      have hun : M.under (fs.take (k + 1)) s = M.under (fs.take k) s ++ (if M.below fs[k].1 s then [M.tail s fs[k]] else []) := by
        unfold M.under
        rw [hft, List.map_append]
        congr 1
        split <;> rfl
      have hsm : (M.under (fs.take k) s).length ≤ k := by unfold M.under; rw [List.length_map]; exact filter_small k
      have HB := Lib.hid (fun w1 => rbelow_any fs[k].1 s (HOK.out _ (List.getElem_mem hlt)).1 hs w1)
      have hxm := (HOK.out _ (List.getElem_mem hlt)).1
      have HBL := Lib.hid (show M.below fs[k].1 s = true → s.length + 1 < fs[k].1.length from fun h => by unfold M.below at h; simp only [Bool.and_eq_true, decide_eq_true_eq] at h; exact h.1.1)
      clear hc hb hft
      generalize fs[k] = f at *
      generalize M.under (fs.take k) s = acc at *
      obtain ⟨x, d⟩ := f
      unfold M.tail at hun
      simp only at *
      generalize M.below x s = r at *
      cases r with
      | false =>
        simp only [Bool.false_eq_true, if_false, List.append_nil] at hun
        have HFT := Lib.hid hun
        clear hun
        go_wp2_with ((with_reducible refine (HB.out _).mono ?_); rintro e w1 ⟨rfl, hw⟩; obtain rfl := hw.symm)
        go_roundw
        case rel => exact ⟨k + 1, by omega, by go_num, by rw [HFT.out]; exact HOWN.out, HO.out⟩
        case measure => simp [intOf]; omega
      | true =>
        simp only [if_true] at hun
        have HFT := Lib.hid hun
        have hxl := HBL.out (by first | trivial | rfl)
        have hxs := size_mk x
        have l2 : (s.length : Int) + 1 ≤ (x.length : Int) := by omega
        have l3 : ((s.length : Int) + 1).toNat = s.length + 1 := by omega
        have l4 : IntKind.i64.wrap ((s.length : Int) + 1) = (s.length : Int) + 1 := IntWalk.i64_in _ (by omega)
        have l5 : (0 : Int) ≤ (s.length : Int) + 1 := by omega
        have hex := extract_drop x (s.length + 1)
        have hown1 : Own w.heap.size ((wr.alloc (.cells #[S (x.drop (s.length + 1)), S d] 54)).drew) u5 acc := HOWN.out.old ((Old.alloc _ _).trans (Old.drewN _ 1))
        have HNW := Lib.hid (World.news_of_block (w := (wr.alloc (.cells #[S (x.drop (s.length + 1)), S d] 54)).drew) (heap_alloc_new wr (.cells #[S (x.drop (s.length + 1)), S d] 54)))
        have HON := Lib.hid (HO.out.trans ((Old.alloc wr (.cells #[S (x.drop (s.length + 1)), S d] 54)).trans (Old.drewN _ 1)))
        have hsz2 := HON.out.size
        have hsz3 : w.heap.size ≤ wr.heap.size + 1 := by have := HO.out.size; omega
        clear hun HBL
        go_wp2_with ((with_reducible refine (HB.out _).mono ?_); rintro e w1 ⟨rfl, hw⟩; obtain rfl := hw.symm)
        apply cut_here
        · intro key
          refine wp_region_any (by kernel_rfl) ?_
          change wpAny _ _ _ _ _ _ _ (World.drew _)
          refine wpAny_take (i := 0) (v := ?_) rfl (by kernel_rfl) (by kernel_rfl) (by kernel_rfl) (fun _ _ _ h => h) (Or.inl ⟨by kernel_rfl, ?_⟩) ?_
          rotate_left
          · intro w'; go_simp; try with_reducible rfl
          refine wpAny_take (i := 1) (v := ?_) rfl (by kernel_rfl) (by kernel_rfl) (by kernel_rfl) (fun _ _ _ h => h) (Or.inl ⟨by kernel_rfl, ?_⟩) ?_
          rotate_left
          · intro w'; go_simp; try with_reducible rfl
          refine wpAny_take (i := 2) (v := ?_) rfl (by kernel_rfl) (by kernel_rfl) (by kernel_rfl) (fun _ _ _ h => h) (Or.inl ⟨by kernel_rfl, ?_⟩) ?_
          rotate_left
          · intro w'; go_simp; try with_reducible rfl
          refine wpAny_take (i := 3) (v := ?_) rfl (by kernel_rfl) (by kernel_rfl) (by kernel_rfl) (fun _ _ _ h => h) (Or.inl ⟨by kernel_rfl, ?_⟩) ?_
          rotate_left
          · intro w'; go_simp; try with_reducible rfl
          refine wpAny_take (i := 4) (v := ?_) rfl (by kernel_rfl) (by kernel_rfl) (by kernel_rfl) (fun _ _ _ h => h) (Or.inl ⟨by kernel_rfl, ?_⟩) ?_
          rotate_left
          · intro w'; go_simp; try with_reducible rfl
          refine wpAny_take (i := 6) (v := ?_) rfl (by kernel_rfl) (by kernel_rfl) (by kernel_rfl) (fun _ _ _ h => h) (Or.inl ⟨by kernel_rfl, ?_⟩) ?_
          rotate_left
          · intro w'; go_simp; try with_reducible rfl
          refine wpAny_take (i := 7) (v := ?_) rfl (by kernel_rfl) (by kernel_rfl) (by kernel_rfl) (fun _ _ _ h => h) (Or.inl ⟨by kernel_rfl, ?_⟩) ?_
          rotate_left
          · intro w'; go_simp; try with_reducible rfl
          refine wpAny_take (i := 8) (v := ?_) rfl (by kernel_rfl) (by kernel_rfl) (by kernel_rfl) (fun _ _ _ h => h) (Or.inl ⟨by kernel_rfl, ?_⟩) ?_
          rotate_left
          · intro w'; go_simp; try with_reducible rfl
          refine wpAny_take (i := 10) (v := ?_) rfl (by kernel_rfl) (by kernel_rfl) (by kernel_rfl) (fun _ _ _ h => h) (Or.inl ⟨by kernel_rfl, ?_⟩) ?_
          rotate_left
          · intro w'; go_simp; try with_reducible rfl
          refine wpAny_take (i := 11) (v := ?_) rfl (by kernel_rfl) (by kernel_rfl) (by kernel_rfl) (fun _ _ _ h => h) (Or.inl ⟨by kernel_rfl, ?_⟩) ?_
          rotate_left
          · intro w'; go_simp; try with_reducible rfl
          refine wpAny_take (i := 12) (v := ?_) rfl (by kernel_rfl) (by kernel_rfl) (by kernel_rfl) (fun _ _ _ h => h) (Or.inl ⟨by kernel_rfl, ?_⟩) ?_
          rotate_left
          · intro w'; go_simp; try with_reducible rfl
          refine wpAny_take (i := 13) (v := ?_) rfl (by kernel_rfl) (by kernel_rfl) (by kernel_rfl) (fun _ _ _ h => h) (Or.inl ⟨by kernel_rfl, ?_⟩) ?_
          rotate_left
          · intro w'; go_simp; try with_reducible rfl
          refine wpAny_ready (rs := [5, 14]) (by kernel_rfl) (by simp) ?_
          refine AllReady.cons rfl (fun K hK => ?_) (AllReady.cons rfl (fun K hK => ?_) AllReady.nil)
          · go_simp
            refine hK _ _ ?_
            clear hK K
            refine wpAny_take (i := 9) (v := ?_) rfl (by kernel_rfl) (by kernel_rfl) (by kernel_rfl) (fun _ _ _ h => h) (Or.inl ⟨by kernel_rfl, ?_⟩) ?_
            rotate_left
            · intro w'; go_simp; try with_reducible rfl
            refine wpAny_ready (rs := [14]) (by kernel_rfl) (by simp) ?_
            refine AllReady.cons rfl (fun K hK => ?_) AllReady.nil
            go_simp
            refine hK _ _ ?_
            clear hK K
            refine wpAny_take (i := 15) (v := ?_) rfl (by kernel_rfl) (by kernel_rfl) (by kernel_rfl) (fun _ _ _ h => h) (Or.inl ⟨by kernel_rfl, ?_⟩) ?_
            rotate_left
            · intro w'; go_simp; try with_reducible rfl
            refine wpAny_ready (rs := [16]) (by kernel_rfl) (by simp) ?_
            refine AllReady.cons rfl (fun K hK => ?_) AllReady.nil
            go_simp
            refine hK _ _ ?_
            clear hK K
            refine wpAny_ready (rs := [17]) (by kernel_rfl) (by simp) ?_
            refine AllReady.cons rfl (fun K hK => ?_) AllReady.nil
            refine step_append_lies _ (by rfl) _ _ _ (by rfl) w.heap.size 54 i0 (.agg #[.string ByteArray.empty, .string ByteArray.empty]) 2 32 Tryz.underlying22 hi hz0 hz1 hz2 (by rfl) (by decide) u5 acc.length (cells acc) (by rfl) hown1 ⟨wr.heap.size, 0, none⟩ 1 1 [S (x.drop (s.length + 1)), S d] (by rfl) (by rfl) HNW.out (two_plain _ _) (by decide) (by unfold maxLen; omega) (by omega) hsz2 _ rfl ?_
            intro g cap2 w2 hown2 hgrow _ _
            try go_simp
            refine hK _ _ ?_
            clear hK K
            refine wpAny_take (i := 18) (v := ?_) rfl (by kernel_rfl) (by kernel_rfl) (by kernel_rfl) (fun _ _ _ h => h) (Or.inl ⟨by kernel_rfl, ?_⟩) ?_
            rotate_left
            · intro w'; go_simp; try with_reducible rfl
            refine wpAny_done (by kernel_rfl) ?_ _
            go_simp
            revert g cap2 w2; exact key.out
          · go_simp
            refine hK _ _ ?_
            clear hK K
            refine wpAny_ready (rs := [5]) (by kernel_rfl) (by simp) ?_
            refine AllReady.cons rfl (fun K hK => ?_) AllReady.nil
            go_simp
            refine hK _ _ ?_
            clear hK K
            refine wpAny_take (i := 9) (v := ?_) rfl (by kernel_rfl) (by kernel_rfl) (by kernel_rfl) (fun _ _ _ h => h) (Or.inl ⟨by kernel_rfl, ?_⟩) ?_
            rotate_left
            · intro w'; go_simp; try with_reducible rfl
            refine wpAny_take (i := 15) (v := ?_) rfl (by kernel_rfl) (by kernel_rfl) (by kernel_rfl) (fun _ _ _ h => h) (Or.inl ⟨by kernel_rfl, ?_⟩) ?_
            rotate_left
            · intro w'; go_simp; try with_reducible rfl
            refine wpAny_ready (rs := [16]) (by kernel_rfl) (by simp) ?_
            refine AllReady.cons rfl (fun K hK => ?_) AllReady.nil
            go_simp
            refine hK _ _ ?_
            clear hK K
            refine wpAny_ready (rs := [17]) (by kernel_rfl) (by simp) ?_
            refine AllReady.cons rfl (fun K hK => ?_) AllReady.nil
            refine step_append_lies _ (by rfl) _ _ _ (by rfl) w.heap.size 54 i0 (.agg #[.string ByteArray.empty, .string ByteArray.empty]) 2 32 Tryz.underlying22 hi hz0 hz1 hz2 (by rfl) (by decide) u5 acc.length (cells acc) (by rfl) hown1 ⟨wr.heap.size, 0, none⟩ 1 1 [S (x.drop (s.length + 1)), S d] (by rfl) (by rfl) HNW.out (two_plain _ _) (by decide) (by unfold maxLen; omega) (by omega) hsz2 _ rfl ?_
            intro g cap2 w2 hown2 hgrow _ _
            try go_simp
            refine hK _ _ ?_
            clear hK K
            refine wpAny_take (i := 18) (v := ?_) rfl (by kernel_rfl) (by kernel_rfl) (by kernel_rfl) (fun _ _ _ h => h) (Or.inl ⟨by kernel_rfl, ?_⟩) ?_
            rotate_left
            · intro w'; go_simp; try with_reducible rfl
            refine wpAny_done (by kernel_rfl) ?_ _
            go_simp
            revert g cap2 w2; exact key.out
        intro g cap2 w2 hown2 hgrow _ _
        have H2 := Lib.hid (Own.grown (f := (x.drop (s.length + 1), d)) hown1 (Nat.le_refl _) HON.out hown2 hgrow)
        clear hown2 hgrow
        go_wp2
        go_roundw
        case rel => exact ⟨k + 1, by omega, by go_num, by rw [HFT.out]; exact H2.out.1, H2.out.2⟩
        case measure => simp [intOf]; omega
    · obtain rfl : k = fs.length := by omega
      rw [List.take_of_length_le (Nat.le_refl _)] at HOWN
      go_wp2
      go_ret
      exact ⟨_, rfl, HOWN.out, HO.out⟩
end Go.Proofs.YtabcobadglgfkaaGreatDoor

/- The document's files put below a path. -/
namespace Go.Proofs.YtabcobadglgfkaaGreatDoor
open Go.RowKit

end Go.Proofs.YtabcobadglgfkaaGreatDoor

/- Files appended to files that the call owns. -/
namespace Go.Proofs.YtabcobadglgfkaaGreatDoor
open Go.RowKit

theorem Fl.news {w : World} {a : Addr} {n cap : Nat} {fs : List M.Fi} (h : Fl w (.slice (some a) n cap) fs) : ∀ j u, (cells fs)[j]? = some u → w.cell? (a.add j) = some u := by
  intro j u hj
  have hjl := (List.getElem?_eq_some_iff.1 hj).1
  rw [cells_len] at hjl
  obtain ⟨b, off, ha, _, hc⟩ := h.at (by intro h; rw [h] at hjl; simp at hjl)
  cases ha
  have hk : j / 2 < fs.length := by omega
  obtain ⟨c0, c1⟩ := hc (j / 2) hk
  obtain ⟨e0, e1⟩ := cells_at fs (j / 2) hk
  rw [Addr.add_lit]
  by_cases hp : j % 2 = 0
  · have e : j = j / 2 * 2 := by omega
    rw [← e] at e0 c0
    rw [c0, ← hj, e0]
  · have e : j = j / 2 * 2 + 1 := by omega
    rw [Nat.add_assoc, ← e] at c1
    rw [← e] at e1
    rw [c1, ← hj, e1]
theorem Fl.take {w : World} {p : Option Addr} {n cap : Nat} {fs : List M.Fi} (h : Fl w (.slice p n cap) fs) (k : Nat) (hk : k ≤ n) : Fl w (.slice p k cap) (fs.take k) := by
  have hn := h.len'
  obtain ⟨p', cap', hv, h0, hc, hx⟩ := h
  obtain ⟨rfl, rfl⟩ : p = p' ∧ cap = cap' := by injection hv with h1 h2 h3; exact ⟨h1, h3⟩
  refine ⟨p, cap, by rw [List.length_take, Nat.min_eq_left (by omega)], h0, by rw [List.length_take]; omega, fun hne => ?_⟩
  obtain ⟨b, off, hp, hb, hcc⟩ := hx (by intro h; rw [h] at hne; simp at hne)
  refine ⟨b, off, hp, hb, fun j hj => ?_⟩
  rw [List.length_take] at hj
  have := hcc j (by omega)
  simpa using this
theorem Fl.drop {w : World} {b off n cap : Nat} {fs : List M.Fi} (h : Fl w (.slice (some ⟨b, off, none⟩) n cap) fs) (k : Nat) (hk : k ≤ n) : Fl w (.slice (some ⟨b, off + k * 2, none⟩) (n - k) (cap - k)) (fs.drop k) := by
  have hn := h.len'
  obtain ⟨p', cap', hv, h0, hc, hx⟩ := h
  obtain ⟨hp1, rfl⟩ : some ⟨b, off, none⟩ = p' ∧ cap = cap' := by injection hv with h1 h2 h3; exact ⟨h1, h3⟩
  subst hp1
  refine ⟨_, _, by rw [List.length_drop, hn], (fun h => by cases h), by rw [List.length_drop]; omega, fun hne => ?_⟩
  obtain ⟨b', off', hp, hb, hcc⟩ := hx (by intro h; rw [h] at hne; simp at hne)
  cases hp
  refine ⟨b, off + k * 2, rfl, hb, fun j hj => ?_⟩
  rw [List.length_drop] at hj
  have := hcc (k + j) (by omega)
  rw [List.getElem_drop, show off + k * 2 + j * 2 = off + (k + j) * 2 by omega]
  exact this
theorem Fl.void (w : World) (a : Addr) (n k cap : Nat) (fs : List M.Fi) (hn : fs.length = n) (hk : n ≤ k) : Fl w (.slice (some a) (n - k) cap) (fs.drop k) := by
  rw [List.drop_eq_nil_of_le (by omega), show n - k = 0 by omega]
  exact ⟨some a, cap, rfl, (fun h => by cases h), Nat.zero_le _, fun h => absurd rfl h⟩
theorem Fl.none_of (w : World) (p : Option Addr) (cap : Nat) (h : p = none → cap = 0) : Fl w (.slice p 0 cap) [] := ⟨p, cap, rfl, h, Nat.zero_le _, fun h => absurd rfl h⟩

theorem wpList_append_files {w : World} {ops : Array Oper} {rest : List Oper} {o : Oper} {a : Act} {Q : Exit → Act → World → Prop} (hgd : o.guard = none) (s x : Operand)
    (ho : o.op = .call { callee := .builtin .append, args := #[s, x], argTypes := #[22, 22] })
    (B : Nat) (v : Value) (acc : List M.Fi) (hs : a.eval s = v) (hown : Own B w v acc) (xv : Value) (gs : List M.Fi) (hx : a.eval x = xv) (hfl : Fl w xv gs) (hlen : acc.length + gs.length ≤ 2199023255552) (hB : B ≤ w.heap.size)
    (h : ∀ v' w', Own B w' v' (acc ++ gs) → w.grownBy w' v.ownBlock → wpList Tryz.prog ops Q rest (a.put o.dst v') w') : wpList Tryz.prog ops Q (o :: rest) a w := by
  obtain ⟨i0, hi, hz0, hz1, hz2⟩ := info_parts infoFile
  obtain ⟨p, cap, rfl⟩ := hfl.len
  cases p with
  | none =>
    obtain ⟨p', cap', hv, h0, hc, _⟩ := hfl
    obtain ⟨rfl, rfl⟩ : none = p' ∧ cap = cap' := by injection hv with h1 h2 h3; exact ⟨h1, h3⟩
    have hc0 := h0 rfl
    have hg : gs = [] := List.eq_nil_of_length_eq_zero (by omega)
    subst hc0; subst hg
    refine wpList_append_own_none hgd s x 22 ho B 54 i0 2 Tryz.underlying22 hi v acc.length (cells acc) hs hown hx ?_
    exact h v w (by rw [List.append_nil]; exact hown) ⟨rfl, rfl, rfl, Nat.le_refl _, fun _ _ _ => rfl⟩
  | some ad =>
    refine wpList_append_own w hgd s x 22 ho B 54 i0 _ 2 32 Tryz.underlying22 hi hz0 hz1 hz2 rfl (by decide) v acc.length (cells acc) hs hown ad gs.length cap (cells gs) hx (cells_len gs) hfl.news (cells_plain gs) (by unfold maxLen; omega) (by omega) hB ?_
    intro v' w' h1 h2 _
    refine h v' w' ?_ h2
    show w'.ownsRow B 54 2 v' (acc ++ gs).length (cells (acc ++ gs))
    rw [cells_append, List.length_append]
    exact h1
theorem Old.grownOwn {B : Nat} {a w w2 : World} {u : Value} {acc : List M.Fi} (h : Own B w u acc) (ha : a.heap.size ≤ B) (ho : Old a w) (h2 : w.grownBy w2 u.ownBlock) : Old a w2 :=
  Keep.old ((Keep.of_old (S := fun _ => False) ho).grown h2 (fun q hq => Or.inl (Nat.le_trans ha (row_from h q hq)))) (fun _ _ h => h)
end Go.Proofs.YtabcobadglgfkaaGreatDoor
