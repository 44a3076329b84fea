/- The program's lists with some files left out. -/
import Derived.Test.YtcmbmbdjdkldoaaDoorPathsE
import Derived.Laws.MakeOwn
import Derived.Deep.AppendLies
namespace Go.Proofs.YtcmbmbdjdkldoaaDoor
open Go.RowKit

theorem filter_take {q : M.Fi → Bool} {fs : List M.Fi} {k : Nat} (hk : k < fs.length) : (fs.take (k + 1)).filter q = (fs.take k).filter q ++ (if q fs[k] then [fs[k]] else []) := by
  rw [List.take_succ_eq_append_getElem hk, List.filter_append]
  congr 1
  cases h : q fs[k] <;> simp [h]
theorem filter_small {q : M.Fi → Bool} {fs : List M.Fi} (k : Nat) : ((fs.take k).filter q).length ≤ k := by
  have := List.length_filter_le q (fs.take k)
  rw [List.length_take] at this
  omega

set_option maxHeartbeats 2000000 in
set_option maxRecDepth 100000 in
theorem leaveOut_any (g : Nat) (lb : Array Value) (eg : ∀ args w, (callFunc g args).run Tryd.prog w = .ok (.enter g args) w) (p : M.Fi → Bool) (v : Value) (fs : List M.Fi) (w : World) (h : Fl w v fs) (hf : Alls fs)
    (hp : Tests g lb p Small w) :
    Calls Tryd.prog 45 #[v, .func (.func g) #[] lb] w fun e w' => ∃ u, e = .returned u ∧ Own w.heap.size w' u (fs.filter fun f => !p f) ∧ Old w w' := by
  obtain ⟨i0, hi, hz0, hz1, hz2⟩ := info_parts infoFile
  obtain ⟨hlen, hok⟩ := hf
  obtain ⟨pp, cap, rfl⟩ := h.len
  have H := Lib.hid h
  have HP := Lib.hid hp
  have HOK := Lib.hid hok
  clear h hp hok
  go_enter Tryd.func45, Tryd.ntmps45
  go_wp2
  go_loopw [5, 10] (fun o i wr => ∃ k : Nat, k ≤ fs.length ∧ i = .int .i64 k ∧ Own w.heap.size wr o ((fs.take k).filter fun f => !p f) ∧ Old w wr) (fun _ i _ => fs.length - (intOf i).toNat)
  case atStart => exact ⟨0, Nat.zero_le _, rfl, Own.nil _ _, Below.refl _ _⟩
  case round =>
    obtain ⟨k, hk, rfl, hown, ho⟩ := hrel
    have HO := Lib.hid ho
    have HOWN := Lib.hid hown
    clear ho hown
    by_cases hlt : k < fs.length
    · obtain ⟨b, off, rfl, hb, hc⟩ := (H.out.old HO.out).at (by intro h; rw [h] at hlt; exact absurd hlt (Nat.not_lt_zero _))
      obtain ⟨hc0, hc1⟩ := hc k hlt
      have HC := Lib.hid (HP.out (wr.alloc (.cells #[S fs[k].1, S fs[k].2] 36)) fs[k] (HOK.out _ (List.getElem_mem hlt)) (HO.out.trans (Old.alloc _ _)))
      have HFT := Lib.hid (filter_take (q := fun f => !p f) hlt)
      have hsm := filter_small (q := fun f => !p f) (fs := fs) k
      have hn0 := (Blk.new wr #[S fs[k].1, S fs[k].2] 36).cellN 0 rfl
      have hn1 := (Blk.new wr #[S fs[k].1, S fs[k].2] 36).cellN 1 rfl
      have HN0 := Lib.hid hn0
      have HN1 := Lib.hid hn1
      clear hc hn0 hn1
      generalize hr : p fs[k] = r at HC HFT
      clear hr
      unfold fv at HC
      generalize fs[k] = f at *
      generalize (fs.take k).filter (fun f => !p f) = acc at *
      have HOA := Lib.hid (Old.alloc wr (.cells #[S f.1, S f.2] 36))
      cases r with
      | true =>
        go_wp2_with (go_at_fn g; refine HC.out.mono ?_; rintro e w1 ⟨rfl, ho1⟩; have hd0 : w1.cell? ⟨wr.heap.size, 0, none⟩ = some (S f.1) := (ho1.cell (p := ⟨wr.heap.size, 0, none⟩) (by simp)).trans HN0.out; have hd1 : w1.cell? ⟨wr.heap.size, 1, none⟩ = some (S f.2) := (ho1.cell (p := ⟨wr.heap.size, 1, none⟩) (by simp)).trans HN1.out)
        go_roundw
        case rel =>
          have hft := HFT.out
          simp only [Bool.not_true, Bool.false_eq_true, if_false, List.append_nil] at hft
          exact ⟨k + 1, by omega, by go_num, by rw [hft]; exact HOWN.out.old (HOA.out.trans ho1), HO.out.trans (HOA.out.trans ho1)⟩
        case measure => simp [intOf]; omega
      | false =>
        go_wp2_with (go_at_fn g; fail)
        refine HC.out.mono ?_
        rintro e w1 ⟨rfl, ho1⟩
        have hd0 : w1.cell? ⟨wr.heap.size, 0, none⟩ = some (S f.1) := (ho1.cell (p := ⟨wr.heap.size, 0, none⟩) (by simp)).trans HN0.out
        have hd1 : w1.cell? ⟨wr.heap.size, 1, none⟩ = some (S f.2) := (ho1.cell (p := ⟨wr.heap.size, 1, none⟩) (by simp)).trans HN1.out
        have hs1 : w.heap.size ≤ w1.heap.size := Nat.le_trans HO.out.size (HOA.out.trans ho1).size
        have hown1 : Own w.heap.size (w1.alloc (.cells #[S f.1, S f.2] 36)) u5 acc := HOWN.out.old ((HOA.out.trans ho1).trans (Old.alloc _ _))
        have HNW := Lib.hid (World.news_of_block (heap_alloc_new w1 (.cells #[S f.1, S f.2] 36)))
        have HON := Lib.hid ((HO.out.trans (HOA.out.trans ho1)).trans (Old.alloc w1 (.cells #[S f.1, S f.2] 36)))
        go_wp2_with (at_builtin; refine wpList_append_own _ rfl _ _ 26 rfl w.heap.size 36 i0 _ 2 32 Tryd.underlying26 hi hz0 hz1 hz2 rfl (by decide) _ _ _ rfl hown1 ⟨w1.heap.size, 0, none⟩ 1 1 [S f.1, S f.2] rfl rfl HNW.out (by intro u hu; simp only [List.mem_cons, List.not_mem_nil, or_false] at hu; rcases hu with rfl | rfl <;> rfl) (by unfold maxLen; omega) (by omega) ?c5 ?_)
        case c5 => have : (w1.alloc (.cells #[S f.1, S f.2] 36)).heap.size = w1.heap.size + 1 := by simp
                   omega
        intro v' w2 hown2 hgrow _
        have hown3 : Own w.heap.size w2 v' (acc ++ [f]) := by
          show w2.ownsRow w.heap.size 36 2 v' (acc ++ [f]).length (cells (acc ++ [f]))
          rw [cells_append, cells_one, List.length_append]
          exact hown2
        have ho2 : Old w w2 := Keep.old ((Keep.of_old (S := fun _ => False) HON.out).grown hgrow (fun q hq => Or.inl (row_from hown1 q hq))) (fun _ _ h => h)
        have HOWN3 := Lib.hid hown3
        clear hown2 hown3 hown1
        go_wp2
        go_roundw
        case rel =>
          have hft := HFT.out
          simp only [Bool.not_false, if_true] at hft
          exact ⟨k + 1, by omega, by go_num, by rw [hft]; exact HOWN3.out, ho2⟩
        case measure => simp [intOf]; omega
    · obtain rfl : k = fs.length := by omega
      rw [List.take_of_length_le (Nat.le_refl _)] at HOWN
      go_wp2
      go_ret
      exact ⟨_, rfl, HOWN.out, HO.out⟩
end Go.Proofs.YtcmbmbdjdkldoaaDoor
