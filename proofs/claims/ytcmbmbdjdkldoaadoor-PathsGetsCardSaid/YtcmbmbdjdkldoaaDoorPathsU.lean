/- The document's files put below a path. -/
import Derived.Test.YtcmbmbdjdkldoaaDoorPathsN
import Derived.Test.YtcmbmbdjdkldoaaDoorPathsT
namespace Go.Proofs.YtcmbmbdjdkldoaaDoor
open Go.RowKit

set_option maxHeartbeats 2000000 in
set_option maxRecDepth 100000 in
theorem rinto_any (v : Value) (fs : List M.Fi) (s : List UInt8) (w : World) (h : Fl w v fs) (hf : Alls fs) (hs : s.length ≤ 1099511627776) :
    Calls Tryd.prog 35 #[v, S s] w fun e w' => ∃ u, e = .returned (.tuple #[u, .int .i64 (M.into fs s).2]) ∧ Own w.heap.size w' u (M.into fs s).1 ∧ Old w w' := by
  obtain ⟨i0, hi, hz0, hz1, hz2⟩ := info_parts infoFile
  have G1 := Lib.hid (rpath_any s (by unfold maxLen; omega) w)
  have G3 := Lib.hid (fun (x : List UInt8) (hx : x.length ≤ 1099511627776) w1 => rpath_any (s ++ 47 :: x) (by unfold maxLen; simp; omega) w1)
  have HI := Lib.hid (show M.into fs s = if M.path s ≠ 0 then ([], 13) else if (fs.all fun f => M.path (M.head s f).1 == 0) = true then (fs.map (M.head s), 0) else ([], 13) from rfl)
  have hpr : ∀ x, M.path x = 0 ∨ M.path x = 13 := fun x => by unfold M.path; split <;> simp
  have HPR := Lib.hid hpr
  have H := Lib.hid h
  have HF := Lib.hid hf.2
  have hlen := hf.1
  obtain ⟨p, cap, rfl⟩ := h.len
  clear h hf
  rcases hpr s with hp | hp
  · rw [hp] at G1 HI
    rw [if_neg (by decide)] at HI
    clear hpr
    go_enter Tryd.func35, Tryd.ntmps35
    go_wp2_with ((with_reducible refine G1.out.mono ?_); rintro e w1 ⟨rfl, hw⟩; obtain rfl := hw.symm)
    go_loopw [6, 7] (fun o i wr => ∃ k : Nat, k ≤ fs.length ∧ i = .int .i64 k ∧ Own w.heap.size wr o ((fs.take k).map (M.head s)) ∧ Old w wr ∧ Hid (∀ j (hj : j < fs.length), j < k → M.path (M.head s fs[j]).1 = 0)) (fun _ i _ => fs.length - (intOf i).toNat)
    case atStart => exact ⟨0, Nat.zero_le _, rfl, Own.nil _ _, Below.refl _ _, Lib.hid (fun j _ h => absurd h (Nat.not_lt_zero _))⟩
    case round =>
      obtain ⟨k, hk, rfl, hown, ho, hall⟩ := hrel
      have HO := Lib.hid ho
      have HOWN := Lib.hid hown
      clear ho hown
      by_cases hlt : k < fs.length
      · obtain ⟨b, off, rfl, hb, hc⟩ := (H.out.old HO.out).at (by intro h; rw [h] at hlt; exact absurd hlt (Nat.not_lt_zero _))
        obtain ⟨c0, c1⟩ := hc k hlt
        have hxm := (HF.out fs[k] (List.getElem_mem hlt)).1
        have HP := Lib.hid (show M.path (M.head s fs[k]).1 = M.path (s ++ 47 :: fs[k].1) from rfl)
        have hft : (fs.take (k + 1)).map (M.head s) = (fs.take k).map (M.head s) ++ [(s ++ 47 :: fs[k].1, fs[k].2)] := by
          rw [List.take_succ_eq_append_getElem hlt, List.map_append]; rfl
        have hsm : ((fs.take k).map (M.head s)).length ≤ k := by simp; omega
        have HG := Lib.hid (G3.out fs[k].1 hxm)
        have hpx := HPR.out (s ++ 47 :: fs[k].1)
        have HFT := Lib.hid hft
        clear hft hc hb
        generalize hfk : fs[k].1 = x at *
        clear hfk
        generalize fs[k].2 = d at *
        generalize (fs.take k).map (M.head s) = acc at *
        have l1 := size_mk s
        have l2 := size_mk x
        have l3 := size_mk [47]
        have l4 := size_mk (s ++ [47])
        have l5 : (s ++ [47]).length = s.length + 1 := by simp
        have a1 := ba_append s [47]
        have a2 := ba_append (s ++ [47]) x
        have a3 : s ++ [47] ++ x = s ++ 47 :: x := by simp
        rw [a3] at a2
        generalize M.path (s ++ 47 :: x) = e2 at *
        rcases hpx with hpx | hpx
        · subst hpx
          have hown1 : Own w.heap.size (wr.alloc (.cells #[S (s ++ 47 :: x), S d] 36)) u6 acc := HOWN.out.old (Old.alloc _ _)
          have HNW := Lib.hid (World.news_of_block (heap_alloc_new wr (.cells #[S (s ++ 47 :: x), S d] 36)))
          have HON := Lib.hid (HO.out.trans (Old.alloc wr (.cells #[S (s ++ 47 :: x), S d] 36)))
          have hsz := HON.out.size
          go_wp2_with (first
            | ((with_reducible refine (HG.out _).mono ?_); rintro e w1 ⟨rfl, hw⟩; obtain rfl := hw.symm)
            | (at_builtin; refine wpList_append_own _ rfl _ _ 26 rfl w.heap.size 36 i0 _ 2 32 Tryd.underlying26 hi hz0 hz1 hz2 rfl (by decide) _ _ _ rfl hown1 ⟨wr.heap.size, 0, none⟩ 1 1 [S (s ++ 47 :: x), S d] rfl rfl HNW.out (two_plain _ _) (by unfold maxLen; omega) (by omega) hsz ?_))
          intro v' w2 hown2 hgrow _
          have H2 := Lib.hid (Own.grown (f := (s ++ 47 :: x, d)) hown1 (Nat.le_refl _) HON.out hown2 hgrow)
          clear hown2 hgrow
          go_wp2
          go_roundw
          case rel =>
            refine ⟨k + 1, by omega, by go_num, by rw [HFT.out]; exact H2.out.1, H2.out.2, Lib.hid (fun j hj hjk => ?_)⟩
            by_cases he : j = k
            · subst he; exact HP.out
            · exact hall.out j hj (by omega)
          case measure => simp [intOf]; omega
        · subst hpx
          go_wp2_with ((with_reducible refine (HG.out _).mono ?_); rintro e w1 ⟨rfl, hw⟩; obtain rfl := hw.symm)
          go_ret2
          rw [if_neg (by
            intro hc
            have := List.all_eq_true.1 hc fs[k] (List.getElem_mem hlt)
            rw [HP.out] at this
            cases this)] at HI
          rw [HI.out]
          exact ⟨_, rfl, Own.nil _ _, HO.out⟩
      · obtain rfl : k = fs.length := by omega
        rw [List.take_of_length_le (Nat.le_refl _)] at HOWN
        rw [if_pos (List.all_eq_true.2 fun y hy => by
          obtain ⟨j, hj, rfl⟩ := List.getElem_of_mem hy
          rw [hall.out j hj hj]; rfl)] at HI
        go_wp2
        go_ret2
        rw [HI.out]
        exact ⟨_, rfl, HOWN.out, HO.out⟩
  · rw [hp] at G1 HI
    rw [if_pos (by decide)] at HI
    rw [HI.out]
    go_enter Tryd.func35, Tryd.ntmps35
    go_wp2_with ((with_reducible refine G1.out.mono ?_); rintro e w1 ⟨rfl, hw⟩; obtain rfl := hw.symm)
    go_ret2
    exact ⟨_, rfl, Own.nil _ _, Below.refl _ _⟩
end Go.Proofs.YtcmbmbdjdkldoaaDoor
