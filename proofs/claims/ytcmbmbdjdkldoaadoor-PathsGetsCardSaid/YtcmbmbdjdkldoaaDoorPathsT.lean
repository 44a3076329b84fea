/- The document's files apart from a path, and below one. -/
import Derived.Test.YtcmbmbdjdkldoaaDoorPathsG
import Derived.Test.YtcmbmbdjdkldoaaDoorPathsS
import Derived.Deep.RegionLaw
namespace Go.Proofs.YtcmbmbdjdkldoaaDoor
open Go.RowKit

theorem two_plain (s d : List UInt8) : ∀ u ∈ ([S s, S d] : List Value), u.oneCell' = true := by
  intro u hu
  simp only [List.mem_cons, List.not_mem_nil, or_false] at hu
  rcases hu with rfl | rfl <;> rfl
/-- What an append of one file's cells leaves. -/
theorem Own.grown {B : Nat} {a w w2 : World} {u v' : Value} {acc : List M.Fi} {f : M.Fi} (h : Own B w u acc) (ha : a.heap.size ≤ B) (ho : Old a w) (h1 : w2.ownsRow B 36 2 v' (acc.length + 1) (cells acc ++ [S f.1, S f.2])) (h2 : w.grownBy w2 u.ownBlock) : Own B w2 v' (acc ++ [f]) ∧ Old a w2 := by
  refine ⟨?_, Keep.old ((Keep.of_old (S := fun _ => False) ho).grown h2 (fun q hq => Or.inl (Nat.le_trans ha (row_from h q hq)))) (fun _ _ h => h)⟩
  show w2.ownsRow B 36 2 v' (acc ++ [f]).length (cells (acc ++ [f]))
  rw [cells_append, cells_one, List.length_append]
  exact h1

set_option maxHeartbeats 2000000 in
set_option maxRecDepth 100000 in
theorem rwithout_any (v : Value) (fs : List M.Fi) (s : List UInt8) (w : World) (h : Fl w v fs) (hf : Alls fs) (hs : s.length ≤ 1099511627776) :
    Calls Tryd.prog 29 #[v, S s] w fun e w' => ∃ u, e = .returned u ∧ Own w.heap.size w' u (M.without fs s) ∧ Old w w' := by
  obtain ⟨i0, hi, hz0, hz1, hz2⟩ := info_parts infoFile
  obtain ⟨hlen, hok⟩ := hf
  obtain ⟨pp, cap, rfl⟩ := h.len
  have H := Lib.hid h
  have HOK := Lib.hid hok
  clear h hok
  go_enter Tryd.func29, Tryd.ntmps29
  go_wp2
  go_loopw [5, 6] (fun o i wr => ∃ k : Nat, k ≤ fs.length ∧ i = .int .i64 k ∧ Own w.heap.size wr o ((fs.take k).filter fun f => !(f.1 == s || M.below f.1 s)) ∧ Old w wr) (fun _ i _ => fs.length - (intOf i).toNat)
  case atStart => exact ⟨0, Nat.zero_le _, rfl, Own.nil _ _, Below.refl _ _⟩
  case round =>
    obtain ⟨k, hk, rfl, hown, ho⟩ := hrel
    have HO := Lib.hid ho
    have HOWN := Lib.hid hown
    clear ho hown
    by_cases hlt : k < fs.length
    · obtain ⟨b, off, rfl, hb, hc⟩ := (H.out.old HO.out).at (by intro h; rw [h] at hlt; exact absurd hlt (Nat.not_lt_zero _))
      obtain ⟨c0, c1⟩ := hc k hlt
      have hft := filter_take (q := fun f => !(f.1 == s || M.below f.1 s)) hlt
      have hsm := filter_small (q := fun f => !(f.1 == s || M.below f.1 s)) (fs := fs) k
      have HB := Lib.hid (fun w1 => rbelow_any fs[k].1 s (HOK.out _ (List.getElem_mem hlt)).1 hs w1)
      clear hc hb
      generalize fs[k] = f at *
      generalize (fs.take k).filter (fun f => !(f.1 == s || M.below f.1 s)) = acc at *
      by_cases he : f.1 = s
      · have e1 : (f.1 == s) = true := by rw [beq_list, decide_eq_true he]
        rw [e1] at hft
        simp only [Bool.true_or, Bool.not_true, Bool.false_eq_true, if_false, List.append_nil] at hft
        have HFT := Lib.hid hft
        clear he hft
        go_wp2
        go_roundw
        case rel => exact ⟨k + 1, by omega, by go_num, by rw [HFT.out]; exact HOWN.out, HO.out⟩
        case measure => simp [intOf]; omega
      · have e1 : (f.1 == s) = false := by rw [beq_list, decide_eq_false he]
        rw [e1, Bool.false_or] at hft
        generalize M.below f.1 s = r at *
        cases r with
        | true =>
          simp only [Bool.not_true, Bool.false_eq_true, if_false, List.append_nil] at hft
          have HFT := Lib.hid hft
          clear he hft
          go_wp2_with ((with_reducible refine (HB.out _).mono ?_); rintro e w1 ⟨rfl, rfl⟩)
          go_roundw
          case rel => exact ⟨k + 1, by omega, by go_num, by rw [HFT.out]; exact HOWN.out, HO.out⟩
          case measure => simp [intOf]; omega
        | false =>
          simp only [Bool.not_false, if_true] at hft
          have HFT := Lib.hid hft
          clear he hft
          have hown1 : Own w.heap.size (wr.alloc (.cells #[S f.1, S f.2] 36)) u5 acc := HOWN.out.old (Old.alloc _ _)
          have HNW := Lib.hid (World.news_of_block (heap_alloc_new wr (.cells #[S f.1, S f.2] 36)))
          have HON := Lib.hid (HO.out.trans (Old.alloc wr (.cells #[S f.1, S f.2] 36)))
          have hsz := HON.out.size
          go_wp2_with (first
            | ((with_reducible refine (HB.out _).mono ?_); rintro e w1 ⟨rfl, hw⟩; obtain rfl := hw.symm)
            | (at_builtin; refine wpList_append_own _ rfl _ _ 26 rfl w.heap.size 36 i0 _ 2 32 Tryd.underlying26 hi hz0 hz1 hz2 rfl (by decide) _ _ _ rfl hown1 ⟨wr.heap.size, 0, none⟩ 1 1 [S f.1, S f.2] rfl rfl HNW.out (two_plain _ _) (by unfold maxLen; omega) (by omega) hsz ?_))
          intro v' w2 hown2 hgrow _
          have H2 := Lib.hid (Own.grown hown1 (Nat.le_refl _) HON.out hown2 hgrow)
          clear hown2 hgrow
          go_wp2
          go_roundw
          case rel => exact ⟨k + 1, by omega, by go_num, by rw [HFT.out]; exact H2.out.1, H2.out.2⟩
          case measure => simp [intOf]; omega
    · obtain rfl : k = fs.length := by omega
      rw [List.take_of_length_le (Nat.le_refl _)] at HOWN
      go_wp2
      go_ret
      exact ⟨_, rfl, HOWN.out, HO.out⟩

set_option maxHeartbeats 2000000 in
set_option maxRecDepth 100000 in
theorem runder_any (v : Value) (fs : List M.Fi) (s : List UInt8) (w : World) (h : Fl w v fs) (hf : Alls fs) (hs : s.length ≤ 1099511627776) :
    Calls Tryd.prog 31 #[v, S s] w fun e w' => ∃ u, e = .returned u ∧ Own w.heap.size w' u (M.under fs s) ∧ Old w w' := by
  obtain ⟨i0, hi, hz0, hz1, hz2⟩ := info_parts infoFile
  obtain ⟨hlen, hok⟩ := hf
  obtain ⟨pp, cap, rfl⟩ := h.len
  have H := Lib.hid h
  have HOK := Lib.hid hok
  have hsz := size_mk s
  clear h hok
  go_enter Tryd.func31, Tryd.ntmps31
  go_wp2
  go_loopw [5, 6] (fun o i wr => ∃ k : Nat, k ≤ fs.length ∧ i = .int .i64 k ∧ Own w.heap.size wr o (M.under (fs.take k) s) ∧ Old w wr) (fun _ i _ => fs.length - (intOf i).toNat)
  case atStart => exact ⟨0, Nat.zero_le _, rfl, Own.nil _ _, Below.refl _ _⟩
  case round =>
    obtain ⟨k, hk, rfl, hown, ho⟩ := hrel
    have HO := Lib.hid ho
    have HOWN := Lib.hid hown
    clear ho hown
    by_cases hlt : k < fs.length
    · obtain ⟨b, off, rfl, hb, hc⟩ := (H.out.old HO.out).at (by intro h; rw [h] at hlt; exact absurd hlt (Nat.not_lt_zero _))
      obtain ⟨c0, c1⟩ := hc k hlt
      have hft := filter_take (q := fun f => M.below f.1 s) hlt
      have hun : M.under (fs.take (k + 1)) s = M.under (fs.take k) s ++ (if M.below fs[k].1 s then [M.tail s fs[k]] else []) := by
        unfold M.under
        rw [hft, List.map_append]
        congr 1
        split <;> rfl
      have hsm : (M.under (fs.take k) s).length ≤ k := by unfold M.under; rw [List.length_map]; exact filter_small k
      have HB := Lib.hid (fun w1 => rbelow_any fs[k].1 s (HOK.out _ (List.getElem_mem hlt)).1 hs w1)
      have hxm := (HOK.out _ (List.getElem_mem hlt)).1
      have HBL := Lib.hid (show M.below fs[k].1 s = true → s.length + 1 < fs[k].1.length from fun h => by unfold M.below at h; simp only [Bool.and_eq_true, decide_eq_true_eq] at h; exact h.1.1)
      clear hc hb hft
      generalize fs[k] = f at *
      generalize M.under (fs.take k) s = acc at *
      obtain ⟨x, d⟩ := f
      unfold M.tail at hun
      simp only at *
      generalize M.below x s = r at *
      cases r with
      | false =>
        simp only [Bool.false_eq_true, if_false, List.append_nil] at hun
        have HFT := Lib.hid hun
        clear hun
        go_wp2_with ((with_reducible refine (HB.out _).mono ?_); rintro e w1 ⟨rfl, hw⟩; obtain rfl := hw.symm)
        go_roundw
        case rel => exact ⟨k + 1, by omega, by go_num, by rw [HFT.out]; exact HOWN.out, HO.out⟩
        case measure => simp [intOf]; omega
      | true =>
        simp only [if_true] at hun
        have HFT := Lib.hid hun
        have hxl := HBL.out (by first | trivial | rfl)
        have hxs := size_mk x
        have l2 : (s.length : Int) + 1 ≤ (x.length : Int) := by omega
        have l3 : ((s.length : Int) + 1).toNat = s.length + 1 := by omega
        have l4 : IntKind.i64.wrap ((s.length : Int) + 1) = (s.length : Int) + 1 := IntWalk.i64_in _ (by omega)
        have l5 : (0 : Int) ≤ (s.length : Int) + 1 := by omega
        have hex := extract_drop x (s.length + 1)
        have hown1 : Own w.heap.size ((wr.alloc (.cells #[S (x.drop (s.length + 1)), S d] 36)).drew) u5 acc := HOWN.out.old ((Old.alloc _ _).trans (Old.drewN _ 1))
        have HNW := Lib.hid (World.news_of_block (w := (wr.alloc (.cells #[S (x.drop (s.length + 1)), S d] 36)).drew) (heap_alloc_new wr (.cells #[S (x.drop (s.length + 1)), S d] 36)))
        have HON := Lib.hid (HO.out.trans ((Old.alloc wr (.cells #[S (x.drop (s.length + 1)), S d] 36)).trans (Old.drewN _ 1)))
        have hsz2 := HON.out.size
        have hsz3 : w.heap.size ≤ wr.heap.size + 1 := by have := HO.out.size; omega
        clear hun HBL
        go_wp2_with ((with_reducible refine (HB.out _).mono ?_); rintro e w1 ⟨rfl, hw⟩; obtain rfl := hw.symm)
        apply cut_here
        · intro key
          refine wp_region_any (by kernel_rfl) ?_
          change wpAny _ _ _ _ _ _ _ (World.drew _)
          refine wpAny_take (i := 0) (v := ?_) rfl (by kernel_rfl) (by kernel_rfl) (by kernel_rfl) (fun _ _ _ h => h) (Or.inl ⟨by kernel_rfl, ?_⟩) ?_
          rotate_left
          · intro w'; go_simp; try with_reducible rfl
          refine wpAny_take (i := 1) (v := ?_) rfl (by kernel_rfl) (by kernel_rfl) (by kernel_rfl) (fun _ _ _ h => h) (Or.inl ⟨by kernel_rfl, ?_⟩) ?_
          rotate_left
          · intro w'; go_simp; try with_reducible rfl
          refine wpAny_take (i := 2) (v := ?_) rfl (by kernel_rfl) (by kernel_rfl) (by kernel_rfl) (fun _ _ _ h => h) (Or.inl ⟨by kernel_rfl, ?_⟩) ?_
          rotate_left
          · intro w'; go_simp; try with_reducible rfl
          refine wpAny_take (i := 3) (v := ?_) rfl (by kernel_rfl) (by kernel_rfl) (by kernel_rfl) (fun _ _ _ h => h) (Or.inl ⟨by kernel_rfl, ?_⟩) ?_
          rotate_left
          · intro w'; go_simp; try with_reducible rfl
          refine wpAny_take (i := 4) (v := ?_) rfl (by kernel_rfl) (by kernel_rfl) (by kernel_rfl) (fun _ _ _ h => h) (Or.inl ⟨by kernel_rfl, ?_⟩) ?_
          rotate_left
          · intro w'; go_simp; try with_reducible rfl
          refine wpAny_take (i := 6) (v := ?_) rfl (by kernel_rfl) (by kernel_rfl) (by kernel_rfl) (fun _ _ _ h => h) (Or.inl ⟨by kernel_rfl, ?_⟩) ?_
          rotate_left
          · intro w'; go_simp; try with_reducible rfl
          refine wpAny_take (i := 7) (v := ?_) rfl (by kernel_rfl) (by kernel_rfl) (by kernel_rfl) (fun _ _ _ h => h) (Or.inl ⟨by kernel_rfl, ?_⟩) ?_
          rotate_left
          · intro w'; go_simp; try with_reducible rfl
          refine wpAny_take (i := 8) (v := ?_) rfl (by kernel_rfl) (by kernel_rfl) (by kernel_rfl) (fun _ _ _ h => h) (Or.inl ⟨by kernel_rfl, ?_⟩) ?_
          rotate_left
          · intro w'; go_simp; try with_reducible rfl
          refine wpAny_take (i := 10) (v := ?_) rfl (by kernel_rfl) (by kernel_rfl) (by kernel_rfl) (fun _ _ _ h => h) (Or.inl ⟨by kernel_rfl, ?_⟩) ?_
          rotate_left
          · intro w'; go_simp; try with_reducible rfl
          refine wpAny_take (i := 11) (v := ?_) rfl (by kernel_rfl) (by kernel_rfl) (by kernel_rfl) (fun _ _ _ h => h) (Or.inl ⟨by kernel_rfl, ?_⟩) ?_
          rotate_left
          · intro w'; go_simp; try with_reducible rfl
          refine wpAny_take (i := 12) (v := ?_) rfl (by kernel_rfl) (by kernel_rfl) (by kernel_rfl) (fun _ _ _ h => h) (Or.inl ⟨by kernel_rfl, ?_⟩) ?_
          rotate_left
          · intro w'; go_simp; try with_reducible rfl
          refine wpAny_take (i := 13) (v := ?_) rfl (by kernel_rfl) (by kernel_rfl) (by kernel_rfl) (fun _ _ _ h => h) (Or.inl ⟨by kernel_rfl, ?_⟩) ?_
          rotate_left
          · intro w'; go_simp; try with_reducible rfl
          refine wpAny_ready (rs := [5, 14]) (by kernel_rfl) (by simp) ?_
          refine AllReady.cons rfl (fun K hK => ?_) (AllReady.cons rfl (fun K hK => ?_) AllReady.nil)
          · go_simp
            refine hK _ _ ?_
            clear hK K
            refine wpAny_take (i := 9) (v := ?_) rfl (by kernel_rfl) (by kernel_rfl) (by kernel_rfl) (fun _ _ _ h => h) (Or.inl ⟨by kernel_rfl, ?_⟩) ?_
            rotate_left
            · intro w'; go_simp; try with_reducible rfl
            refine wpAny_ready (rs := [14]) (by kernel_rfl) (by simp) ?_
            refine AllReady.cons rfl (fun K hK => ?_) AllReady.nil
            go_simp
            refine hK _ _ ?_
            clear hK K
            refine wpAny_take (i := 15) (v := ?_) rfl (by kernel_rfl) (by kernel_rfl) (by kernel_rfl) (fun _ _ _ h => h) (Or.inl ⟨by kernel_rfl, ?_⟩) ?_
            rotate_left
            · intro w'; go_simp; try with_reducible rfl
            refine wpAny_ready (rs := [16]) (by kernel_rfl) (by simp) ?_
            refine AllReady.cons rfl (fun K hK => ?_) AllReady.nil
            go_simp
            refine hK _ _ ?_
            clear hK K
            refine wpAny_ready (rs := [17]) (by kernel_rfl) (by simp) ?_
            refine AllReady.cons rfl (fun K hK => ?_) AllReady.nil
            refine step_append_lies _ (by rfl) _ _ _ (by rfl) w.heap.size 36 i0 (.agg #[.string ByteArray.empty, .string ByteArray.empty]) 2 32 Tryd.underlying26 hi hz0 hz1 hz2 (by rfl) (by decide) u5 acc.length (cells acc) (by rfl) hown1 ⟨wr.heap.size, 0, none⟩ 1 1 [S (x.drop (s.length + 1)), S d] (by rfl) (by rfl) HNW.out (two_plain _ _) (by decide) (by unfold maxLen; omega) (by omega) hsz2 _ rfl ?_
            intro g cap2 w2 hown2 hgrow _ _
            try go_simp
            refine hK _ _ ?_
            clear hK K
            refine wpAny_take (i := 18) (v := ?_) rfl (by kernel_rfl) (by kernel_rfl) (by kernel_rfl) (fun _ _ _ h => h) (Or.inl ⟨by kernel_rfl, ?_⟩) ?_
            rotate_left
            · intro w'; go_simp; try with_reducible rfl
            refine wpAny_done (by kernel_rfl) ?_ _
            go_simp
            revert g cap2 w2; exact key.out
          · go_simp
            refine hK _ _ ?_
            clear hK K
            refine wpAny_ready (rs := [5]) (by kernel_rfl) (by simp) ?_
            refine AllReady.cons rfl (fun K hK => ?_) AllReady.nil
            go_simp
            refine hK _ _ ?_
            clear hK K
            refine wpAny_take (i := 9) (v := ?_) rfl (by kernel_rfl) (by kernel_rfl) (by kernel_rfl) (fun _ _ _ h => h) (Or.inl ⟨by kernel_rfl, ?_⟩) ?_
            rotate_left
            · intro w'; go_simp; try with_reducible rfl
            refine wpAny_take (i := 15) (v := ?_) rfl (by kernel_rfl) (by kernel_rfl) (by kernel_rfl) (fun _ _ _ h => h) (Or.inl ⟨by kernel_rfl, ?_⟩) ?_
            rotate_left
            · intro w'; go_simp; try with_reducible rfl
            refine wpAny_ready (rs := [16]) (by kernel_rfl) (by simp) ?_
            refine AllReady.cons rfl (fun K hK => ?_) AllReady.nil
            go_simp
            refine hK _ _ ?_
            clear hK K
            refine wpAny_ready (rs := [17]) (by kernel_rfl) (by simp) ?_
            refine AllReady.cons rfl (fun K hK => ?_) AllReady.nil
            refine step_append_lies _ (by rfl) _ _ _ (by rfl) w.heap.size 36 i0 (.agg #[.string ByteArray.empty, .string ByteArray.empty]) 2 32 Tryd.underlying26 hi hz0 hz1 hz2 (by rfl) (by decide) u5 acc.length (cells acc) (by rfl) hown1 ⟨wr.heap.size, 0, none⟩ 1 1 [S (x.drop (s.length + 1)), S d] (by rfl) (by rfl) HNW.out (two_plain _ _) (by decide) (by unfold maxLen; omega) (by omega) hsz2 _ rfl ?_
            intro g cap2 w2 hown2 hgrow _ _
            try go_simp
            refine hK _ _ ?_
            clear hK K
            refine wpAny_take (i := 18) (v := ?_) rfl (by kernel_rfl) (by kernel_rfl) (by kernel_rfl) (fun _ _ _ h => h) (Or.inl ⟨by kernel_rfl, ?_⟩) ?_
            rotate_left
            · intro w'; go_simp; try with_reducible rfl
            refine wpAny_done (by kernel_rfl) ?_ _
            go_simp
            revert g cap2 w2; exact key.out
        intro g cap2 w2 hown2 hgrow _ _
        have H2 := Lib.hid (Own.grown (f := (x.drop (s.length + 1), d)) hown1 (Nat.le_refl _) HON.out hown2 hgrow)
        clear hown2 hgrow
        go_wp2
        go_roundw
        case rel => exact ⟨k + 1, by omega, by go_num, by rw [HFT.out]; exact H2.out.1, H2.out.2⟩
        case measure => simp [intOf]; omega
    · obtain rfl : k = fs.length := by omega
      rw [List.take_of_length_le (Nat.le_refl _)] at HOWN
      go_wp2
      go_ret
      exact ⟨_, rfl, HOWN.out, HO.out⟩
end Go.Proofs.YtcmbmbdjdkldoaaDoor
