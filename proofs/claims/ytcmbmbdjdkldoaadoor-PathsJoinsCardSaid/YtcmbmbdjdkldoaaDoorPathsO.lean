/- The program's files with others. -/
import Derived.Test.YtcmbmbdjdkldoaaDoorPathsN
namespace Go.Proofs.YtcmbmbdjdkldoaaDoor
open Go.RowKit

theorem repl_mem : ∀ {fs : List M.Fi} {f g : M.Fi}, g ∈ M.repl fs f → g ∈ fs ∨ g = f
  | [], f, g, h => by simp [M.repl] at h
  | x :: r, f, g, h => by
      rw [M.repl] at h
      split at h
      · rcases List.mem_cons.1 h with h | h
        · exact Or.inr h
        · exact Or.inl (by simp [h])
      · rcases List.mem_cons.1 h with h | h
        · exact Or.inl (by simp [h])
        · rcases repl_mem h with h | h
          · exact Or.inl (by simp [h])
          · exact Or.inr h
theorem ins_mem : ∀ {fs : List M.Fi} {f g : M.Fi}, g ∈ M.ins fs f → g ∈ fs ∨ g = f
  | [], f, g, h => by
      rw [M.ins, List.mem_singleton] at h
      exact Or.inr h
  | x :: r, f, g, h => by
      rw [M.ins] at h
      split at h
      · rcases List.mem_cons.1 h with h | h
        · exact Or.inr h
        · exact Or.inl h
      · rcases List.mem_cons.1 h with h | h
        · exact Or.inl (by simp [h])
        · rcases ins_mem h with h | h
          · exact Or.inl (by simp [h])
          · exact Or.inr h
theorem put_mem {fs : List M.Fi} {f g : M.Fi} (h : g ∈ M.put fs f) : g ∈ fs ∨ g = f := by
  unfold M.put at h
  split at h
  · exact repl_mem h
  · exact ins_mem h
theorem with_alls {fs : List M.Fi} {f : M.Fi} (h : Alls fs) (hf : Small f) (he : (M.withF fs f).2 = 0) : Alls (M.withF fs f).1 := by
  unfold M.withF at he ⊢
  split at he
  · rename_i h1; exact absurd he h1
  · split at he
    · cases he
    · split at he
      · cases he
      · rename_i h1 h2 h3
        rw [if_neg h1, if_neg h2, if_neg h3]
        refine ⟨by simp only; omega, fun g hg => ?_⟩
        rcases put_mem hg with hg | hg
        · exact h.2 g hg
        · rw [hg]; exact hf

set_option maxHeartbeats 2000000 in
set_option maxRecDepth 100000 in
theorem union_any (v u : Value) (fs more : List M.Fi) (w : World) (h : Fl w v fs) (hf : Alls fs) (h2 : Fl w u more) (hf2 : Alls more) (hm : Mx w) :
    Calls Tryd.prog 36 #[v, u] w fun e w' => ∃ o, e = .returned (.tuple #[o, .int .i64 (M.union fs more).2]) ∧ Own w.heap.size w' o (M.union fs more).1 ∧ Old w w' := by
  have HM := Lib.hid hm
  have G1 := Lib.hid (clone_any v fs w h hf.1)
  have H2 := Lib.hid h2
  have HF2 := Lib.hid hf2.2
  have HF := Lib.hid hf
  have hlen := hf2.1
  obtain ⟨p, cap, rfl⟩ := h2.len
  clear h hf h2 hf2 hm
  go_enter Tryd.func36, Tryd.ntmps36
  go_wp2_with fail
  refine G1.out.mono ?_
  rintro e w1 ⟨o, rfl, hown, ho1⟩
  have HO1 := Lib.hid ho1
  have HOWN := Lib.hid hown
  clear ho1 hown G1
  go_wp2
  go_loopw [6, 14] (fun o i wr => ∃ (k : Nat) (acc : List M.Fi), k ≤ more.length ∧ i = .int .i64 k ∧ Own w.heap.size wr o acc ∧ Old w wr ∧ Alls acc ∧ Hid (M.union fs more = M.union acc (more.drop k))) (fun _ i _ => more.length - (intOf i).toNat)
  case atStart => exact ⟨0, fs, Nat.zero_le _, rfl, HOWN.out, HO1.out, HF.out, Lib.hid rfl⟩
  case round =>
    obtain ⟨k, acc, hk, rfl, hown, ho, hal, hun⟩ := hrel
    have HO := Lib.hid ho
    have HOWN := Lib.hid hown
    have HAL := Lib.hid hal
    clear ho hown hal
    by_cases hlt : k < more.length
    · obtain ⟨b, off, rfl, hb, hc⟩ := (H2.out.old HO.out).at (by intro h; rw [h] at hlt; exact absurd hlt (Nat.not_lt_zero _))
      obtain ⟨hc0, hc1⟩ := hc k hlt
      have hsm := HF2.out _ (List.getElem_mem hlt)
      have hst := hun.out
      rw [List.drop_eq_getElem_cons hlt, M.union] at hst
      clear hc
      generalize more[k] = f at *
      obtain ⟨w2, ew2, hb2, ho2⟩ : ∃ w2, wr.alloc (.cells #[S f.1, S f.2] 36) = w2 ∧ Blk w2 wr.heap.size #[S f.1, S f.2] 36 ∧ Old wr w2 := ⟨_, rfl, Blk.new wr _ _, Old.alloc wr _⟩
      have HG := Lib.hid (with_any u6 acc f w2 (HOWN.out.fl.old ho2) HAL.out hsm (HM.out.old (HO.out.trans ho2)))
      have HAW := Lib.hid (fun he => with_alls (f := f) HAL.out hsm he)
      have HST := Lib.hid hst
      have d0 := hb2.cellN 0 rfl
      have d1 := hb2.cellN 1 rfl
      have hsz := ho2.size
      have HO2 := Lib.hid (HO.out.trans ho2)
      clear hst hsm hb2 ho2
      generalize M.withF acc f = x at *
      obtain ⟨xs, xe⟩ := x
      simp only at HG HAW HST
      by_cases hxe : xe = 0
      · subst hxe
        go_wp2_with ((with_reducible refine HG.out.mono ?_); rintro e w3 ⟨o, rfl, hown3, ho3⟩)
        go_roundw
        case rel =>
          have hst := HST.out
          rw [if_neg (by decide)] at hst
          exact ⟨k + 1, xs, by omega, by go_num, hown3.mono (by have := HO.out.size; omega), HO2.out.trans ho3, HAW.out trivial, Lib.hid hst⟩
        case measure => simp [intOf]; omega
      · go_wp2_with ((with_reducible refine HG.out.mono ?_); rintro e w3 ⟨o, rfl, hown3, ho3⟩)
        go_ret2
        have hst := HST.out
        rw [if_pos hxe] at hst
        rw [hst]
        exact ⟨_, rfl, Own.nil _ _, HO2.out.trans ho3⟩
    · obtain rfl : k = more.length := by omega
      have hst := hun.out
      rw [List.drop_of_length_le (Nat.le_refl _), M.union] at hst
      go_wp2
      go_ret2
      rw [hst]
      exact ⟨_, rfl, HOWN.out, HO.out⟩
end Go.Proofs.YtcmbmbdjdkldoaaDoor
