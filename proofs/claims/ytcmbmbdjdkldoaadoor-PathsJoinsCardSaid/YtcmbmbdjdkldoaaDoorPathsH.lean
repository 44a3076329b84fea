/- The library's Clone of files, and copies of cells, two for each file. -/
import Derived.Test.YtcmbmbdjdkldoaaDoorPathsG
import Derived.Lib.SliceRun
namespace Go.Proofs.YtcmbmbdjdkldoaaDoor
open Go.RowKit

set_option maxHeartbeats 1000000 in
theorem clone_any (v : Value) (fs : List M.Fi) (w : World) (h : Fl w v fs) (hlen : fs.length ≤ 1099511627776) :
    Calls Tryd.prog 50 #[v] w fun e w' => ∃ u, e = .returned u ∧ Own w.heap.size w' u fs ∧ Old w w' := by
  obtain ⟨i0, hi, hz0, hz1, hz2⟩ := info_parts infoFile
  have q := fun (w : World) (a : Option Addr) (n c n' c' : Nat) => Lib.run_eql_slice_nil (P := Tryd.prog) w 26 36 a n c n' c' Tryd.underlying26
  obtain ⟨p, cap, rfl, h0, hcap, hx⟩ := h
  cases p with
  | none =>
    have hc0 := h0 rfl
    subst hc0
    have hn : fs = [] := List.eq_nil_of_length_eq_zero (by omega)
    subst hn
    go_enter Tryd.func50, Tryd.ntmps50
    go_wp2
    go_ret
    exact ⟨_, rfl, Own.nil _ _, Below.refl _ _⟩
  | some a =>
    have hnews : ∀ j u, (cells fs)[j]? = some u → w.cell? (a.add j) = some u := by
      intro j u hj
      have hjl := (List.getElem?_eq_some_iff.1 hj).1
      rw [cells_len] at hjl
      obtain ⟨b, off, ha, _, hc⟩ := hx (by intro h; rw [h] at hjl; simp at hjl)
      cases ha
      have hk : j / 2 < fs.length := by omega
      obtain ⟨c0, c1⟩ := hc (j / 2) hk
      obtain ⟨e0, e1⟩ := cells_at fs (j / 2) hk
      rw [Addr.add_lit]
      by_cases hp : j % 2 = 0
      · have e : j = j / 2 * 2 := by omega
        rw [← e] at e0 c0
        rw [c0, ← hj, e0]
      · have e : j = j / 2 * 2 + 1 := by omega
        rw [Nat.add_assoc, ← e] at c1
        rw [← e] at e1
        rw [c1, ← hj, e1]
    have HNW := Lib.hid hnews
    clear hx hnews
    go_enter Tryd.func50, Tryd.ntmps50
    go_wp2_with (at_builtin; refine wpList_append_own _ rfl _ _ 26 rfl w.heap.size 36 i0 _ 2 32 Tryd.underlying26 hi hz0 hz1 hz2 rfl (by decide) _ _ _ rfl (World.ownsRow_made w #[] 0 (Nat.le_refl _) (Nat.zero_le _) (by simp)) a fs.length cap (cells fs) rfl ?qc1 ?qc2 ?qc3 ?qc4 ?qc5 ?qc6 ?_)
    case qc1 => exact cells_len fs
    case qc2 => exact fun j u hj => Lib.cell?_alloc_some _ (HNW.out j u hj)
    case qc3 => exact cells_plain fs
    case qc4 => unfold maxLen; omega
    case qc5 => omega
    case qc6 => simp
    intro v' w1 hown hgrow _
    go_wp2
    go_ret
    refine ⟨v', rfl, by simpa [Own] using hown, ?_⟩
    exact ((Below.refl _ w).alloc (Nat.le_refl _) _).grown hgrow (by simp) (by intro k hk; simp [Value.ownBlock] at hk; omega)

theorem run_copy_row_k {P : Program} (sz : Nat) (w : World) (dT sT ty elem : TypeId) (g o dLen dCap : Nat) (a : Addr) (sLen sCap : Nat) (cur : Array Value) (t : TypeId) (cs : List Value)
    (hu : P.underlying dT = some (.slice elem)) (hs : (P.info? elem).map (·.size) = some sz)
    (hg : w.heap[g]? = some (.cells cur t (0, 0))) (hn : cs.length = Nat.min sLen dLen * sz)
    (hsrc : ∀ j v, cs[j]? = some v → w.cell? (a.add j) = some v) (hfit : o + cs.length ≤ cur.size) (h1 : ∀ v ∈ cs, v.oneCell' = true) :
    (Builtin.copy_ #[dT, sT] ty #[.slice (some ⟨g, o, none⟩) dLen dCap, .slice (some a) sLen sCap]).run P w =
      .ok (goInt (Nat.min sLen dLen)) (w.setRow g (cur.toList.take o ++ cs ++ cur.toList.drop (o + cs.length)).toArray) := by
  have hl := run_loadCells_list (P := P) w a cs hsrc
  have hst := run_storeCells_at P g o t cs 0 cur w hg (by simpa using hfit) h1
  cases hq : P.info? elem with
  | none => simp [hq] at hs
  | some i =>
    have hi : i.size = sz := by simpa [hq] using hs
    simp [Builtin.copy_, run_underlying hu, Builtin.lenOf, Builtin.firstCells, sizeOf, typeInfo, hq, hi, ← hn, hl, hst]
end Go.Proofs.YtcmbmbdjdkldoaaDoor
