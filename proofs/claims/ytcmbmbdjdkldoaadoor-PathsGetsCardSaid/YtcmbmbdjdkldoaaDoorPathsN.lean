/- The program's files put below a path. -/
import Derived.Test.YtcmbmbdjdkldoaaDoorPathsL
import Derived.Laws.Concat
import Derived.Deep.CutBlock
namespace Go.Proofs.YtcmbmbdjdkldoaaDoor
open Go.RowKit

/-- The first k files of l with the path ahead. -/
def heads (s : List UInt8) (l : List M.Fi) (k : Nat) : List M.Fi := (l.take k).map (M.head s) ++ l.drop k
theorem heads_len (s : List UInt8) (l : List M.Fi) (k : Nat) (hk : k ≤ l.length) : (heads s l k).length = l.length := by simp [heads]; omega
theorem heads_at (s : List UInt8) (l : List M.Fi) (k : Nat) (hk : k < l.length) : (heads s l k)[k]? = some l[k] := by
  unfold heads
  rw [List.getElem?_append_right (by simp; omega)]
  simp
  rw [Nat.min_eq_left (by omega), Nat.sub_self, Nat.add_zero, List.getElem?_eq_getElem hk]
theorem heads_step (s : List UInt8) (l : List M.Fi) (k : Nat) (hk : k < l.length) : (heads s l k).set k (M.head s l[k]) = heads s l (k + 1) := by
  unfold heads
  rw [List.set_append_right _ _ (by simp; omega), List.take_succ_eq_append_getElem hk, List.map_append, List.append_assoc, List.drop_eq_getElem_cons hk]
  congr 1
  simp
  rw [Nat.min_eq_left (by omega), Nat.sub_self, List.drop_eq_getElem_cons hk]
  rfl
theorem ba_append (a b : List UInt8) : ((⟨⟨a⟩⟩ : ByteArray) ++ ⟨⟨b⟩⟩) = ⟨⟨a ++ b⟩⟩ := by
  apply ba_inj
  simp

set_option maxHeartbeats 2000000 in
set_option maxRecDepth 100000 in
theorem into_any (v : Value) (fs : List M.Fi) (s : List UInt8) (w : World) (h : Fl w v fs) (hf : Alls fs) (hs : s.length ≤ 1099511627776) (hm : Mx w) :
    Calls Tryd.prog 34 #[v, S s] w fun e w' => ∃ u, e = .returned (.tuple #[u, .int .i64 (M.into fs s).2]) ∧ Own w.heap.size w' u (M.into fs s).1 ∧ Old w w' := by
  have HM := Lib.hid hm
  have G1 := Lib.hid (path_any s (by unfold maxLen; omega) w hm)
  have G2 := Lib.hid (fun w1 (h : Fl w1 v fs) => clone_any v fs w1 h hf.1)
  have G3 := Lib.hid (fun (x : List UInt8) (hx : x.length ≤ 1099511627776) w1 (hm : Mx w1) => path_any (s ++ 47 :: x) (by unfold maxLen; simp; omega) w1 hm)
  have HI := Lib.hid (show M.into fs s = if M.path s ≠ 0 then ([], 13) else if (fs.all fun f => M.path (M.head s f).1 == 0) = true then (fs.map (M.head s), 0) else ([], 13) from rfl)
  have hpr : ∀ x, M.path x = 0 ∨ M.path x = 13 := fun x => by unfold M.path; split <;> simp
  have HPR := Lib.hid hpr
  have H := Lib.hid h
  have HF := Lib.hid hf.2
  have hlen := hf.1
  clear h hf hm
  rcases hpr s with hp | hp
  · rw [hp] at G1 HI
    rw [if_neg (by decide)] at HI
    clear hpr
    go_enter Tryd.func34, Tryd.ntmps34
    go_wp2_with fail
    refine G1.out.mono ?_
    rintro e w1 ⟨rfl, ho1⟩
    have HO1 := Lib.hid ho1
    clear ho1
    go_wp2_with fail
    refine (G2.out w1 (H.out.old HO1.out)).mono ?_
    rintro e w2 ⟨u, rfl, hown, ho2⟩
    obtain ⟨p, cap, rfl⟩ := hown.fl.len
    have HOWN := Lib.hid (show Own w.heap.size w2 (.slice p fs.length cap) (heads s fs 0) from by
      have : heads s fs 0 = fs := by simp [heads]
      rw [this]; exact hown.mono HO1.out.size)
    have HO2 := Lib.hid (HO1.out.trans ho2)
    clear hown ho2 G2 G1
    go_wp2
    go_loopw [8, 19] (fun _ i wr => ∃ k : Nat, k ≤ fs.length ∧ i = .int .i64 k ∧ Own w.heap.size wr (.slice p fs.length cap) (heads s fs k) ∧ Old w wr ∧ Hid (∀ j (hj : j < fs.length), j < k → M.path (M.head s fs[j]).1 = 0)) (fun _ i _ => fs.length - (intOf i).toNat)
    case atStart => exact ⟨0, Nat.zero_le _, rfl, HOWN.out, HO2.out, Lib.hid (fun j _ h => absurd h (Nat.not_lt_zero _))⟩
    case round =>
      obtain ⟨k, hk, rfl, hown, ho, hall⟩ := hrel
      have HO := Lib.hid ho
      have HOWN := Lib.hid hown
      clear ho hown
      by_cases hlt : k < fs.length
      · obtain ⟨g, cap', hv, hg⟩ := row_at HOWN.out (by rw [heads_len _ _ _ hk]; omega)
        obtain ⟨rfl, rfl⟩ : p = some ⟨g, 0, none⟩ ∧ cap = cap' := by injection hv with h1 h2 h3; exact ⟨h1, h3⟩
        clear hv
        have hlc : (cells (heads s fs k)).length = fs.length * 2 := by rw [cells_len, heads_len _ _ _ hk]
        have hrow : wr.ownsRow w.heap.size 36 2 (.slice (some ⟨g, 0, none⟩) fs.length cap) fs.length (cells (heads s fs k)) := by have := HOWN.out; unfold Own at this; rwa [heads_len _ _ _ hk] at this
        obtain ⟨c0, f0⟩ := row_cell hrow (k * 2) (by omega)
        have e2 : (heads s fs k)[k]'(by rw [heads_len _ _ _ hk]; exact hlt) = fs[k] := by have := heads_at s fs k hlt; rw [List.getElem?_eq_getElem (by rw [heads_len _ _ _ hk]; exact hlt)] at this; exact Option.some.inj this
        have hx : (cells (heads s fs k))[k * 2]'(by omega) = S fs[k].1 := by
          have e := (cells_at (heads s fs k) k (by rw [heads_len _ _ _ hk]; exact hlt)).1
          rw [e2, List.getElem?_eq_getElem (by omega)] at e
          exact Option.some.inj e
        rw [hx] at c0
        have HST := Lib.hid (row_set hrow (i := k * 2) (by omega) (S (s ++ 47 :: fs[k].1)))
        have HD0 := Lib.hid (show (wr.setCell ⟨g, k * 2, none⟩ (S (s ++ 47 :: fs[k].1))).cell? ⟨g, k * 2, none⟩ = some (S (s ++ 47 :: fs[k].1)) from by
          have := (row_cell HST.out (k * 2) (by rw [List.length_set]; omega)).1
          rwa [List.getElem_set_self] at this)
        have hset := cells_set1 (heads s fs k) k (by rw [heads_len _ _ _ hk]; exact hlt) (s ++ 47 :: fs[k].1)
        rw [e2, show ((s ++ 47 :: fs[k].1, fs[k].2) : M.Fi) = M.head s fs[k] from rfl, heads_step s fs k hlt] at hset
        rw [hset] at HST
        have hxm := (HF.out fs[k] (List.getElem_mem hlt)).1
        have HP := Lib.hid (show M.path (M.head s fs[k]).1 = M.path (s ++ 47 :: fs[k].1) from rfl)
        have hpx := HPR.out (s ++ 47 :: fs[k].1)
        have HG := Lib.hid (G3.out fs[k].1 hxm)
        clear hset hx hlc hrow e2
        generalize hfk : fs[k].1 = x at *
        clear hfk
        have l1 := size_mk s
        have l2 := size_mk x
        have l3 := size_mk [47]
        have l4 := size_mk (s ++ [47])
        have l5 : (s ++ [47]).length = s.length + 1 := by simp
        have a1 := ba_append s [47]
        have a2 := ba_append (s ++ [47]) x
        have a3 : s ++ [47] ++ x = s ++ 47 :: x := by simp
        rw [a3] at a2
        go_upto_region 9 with (fail)
        have HO3 := Lib.hid (HO.out.setNew (p := ⟨g, k * 2, none⟩) hg (S (s ++ 47 :: x)))
        have HOWN3 := Lib.hid (show Own w.heap.size (wr.setCell ⟨g, k * 2, none⟩ (S (s ++ 47 :: x))) (.slice (some ⟨g, 0, none⟩) fs.length cap) (heads s fs (k + 1)) from by
          show World.ownsRow _ _ _ 2 _ (heads s fs (k + 1)).length _
          rw [heads_len _ _ _ (by omega)]
          exact HST.out)
        clear HST HOWN f0 c0
        generalize wr.setCell ⟨g, k * 2, none⟩ (Value.string ⟨⟨s ++ 47 :: x⟩⟩) = w3 at *
        have d0 := HD0.out
        have HG3 := Lib.hid (HG.out w3 (HM.out.old HO3.out))
        clear HG G3 a1 a2 a3 l1 l2 l3 l4 l5 HD0 HO
        generalize M.path (s ++ 47 :: x) = e2 at *
        rcases hpx with hpx | hpx
        · subst hpx
          go_wp2_with ((with_reducible refine HG3.out.mono ?_); rintro e w4 ⟨rfl, ho4⟩)
          go_roundw
          case rel =>
            refine ⟨k + 1, by omega, by go_num, HOWN3.out.old ho4, HO3.out.trans ho4, Lib.hid (fun j hj hjk => ?_)⟩
            by_cases he : j = k
            · subst he; exact HP.out
            · exact hall.out j hj (by omega)
          case measure => simp [intOf]; omega
        · subst hpx
          go_wp2_with ((with_reducible refine HG3.out.mono ?_); rintro e w4 ⟨rfl, ho4⟩)
          go_ret2
          rw [if_neg (by
            intro hc
            have := List.all_eq_true.1 hc fs[k] (List.getElem_mem hlt)
            rw [HP.out] at this
            cases this)] at HI
          rw [HI.out]
          exact ⟨_, rfl, Own.nil _ _, HO3.out.trans ho4⟩
      · obtain rfl : k = fs.length := by omega
        have ht : heads s fs fs.length = fs.map (M.head s) := by simp [heads]
        rw [ht] at HOWN
        rw [if_pos (List.all_eq_true.2 fun y hy => by
          obtain ⟨j, hj, rfl⟩ := List.getElem_of_mem hy
          rw [hall.out j hj hj]; rfl)] at HI
        go_wp2
        go_ret2
        rw [HI.out]
        exact ⟨_, rfl, HOWN.out, HO.out⟩
  · rw [hp] at G1 HI
    rw [if_pos (by decide)] at HI
    rw [HI.out]
    go_enter Tryd.func34, Tryd.ntmps34
    go_wp2_with ((with_reducible refine G1.out.mono ?_); rintro e w2 ⟨rfl, ho2⟩)
    go_ret2
    exact ⟨_, rfl, Own.nil _ _, ho2⟩
end Go.Proofs.YtcmbmbdjdkldoaaDoor
