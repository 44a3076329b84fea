/- The document's files with others. -/
import Derived.Test.YtcmbmbdjdkldoaaDoorPathsO
import Derived.Test.YtcmbmbdjdkldoaaDoorPathsW
namespace Go.Proofs.YtcmbmbdjdkldoaaDoor
open Go.RowKit

set_option maxHeartbeats 2000000 in
set_option maxRecDepth 100000 in
theorem runion_any (v u : Value) (fs more : List M.Fi) (w : World) (h : Fl w v fs) (hf : Alls fs) (h2 : Fl w u more) (hf2 : Alls more) :
    Calls Tryd.prog 37 #[v, u] w fun e w' => ∃ o, e = .returned (.tuple #[o, .int .i64 (M.union fs more).2]) ∧ Own w.heap.size w' o (M.union fs more).1 ∧ Old w w' := by
  have H := Lib.hid h
  have H2 := Lib.hid h2
  have HF2 := Lib.hid hf2.2
  have HF := Lib.hid hf
  have hlen := hf2.1
  have hlen1 := hf.1
  obtain ⟨p, cap, rfl⟩ := h2.len
  clear h hf h2 hf2
  have hB0 : w.heap.size ≤ w.heap.size := Nat.le_refl _
  go_enter Tryd.func37, Tryd.ntmps37
  go_wp2_with (at_builtin; refine wpList_append_files rfl _ _ rfl w.heap.size _ [] rfl (Own.nil _ _) _ fs rfl H.out (by rw [List.length_nil]; omega) hB0 ?_)
  intro v1 w1 hown1 hgrow1
  have HO1 := Lib.hid (Old.grownOwn (Own.nil w.heap.size w) (Nat.le_refl _) (Below.refl _ w) hgrow1)
  have HOWN := Lib.hid (show Own w.heap.size w1 v1 fs from by simpa using hown1)
  clear hown1 hgrow1
  go_wp2
  go_loopw [6, 7] (fun o i wr => ∃ (k : Nat) (acc : List M.Fi), k ≤ more.length ∧ i = .int .i64 k ∧ Own w.heap.size wr o acc ∧ Old w wr ∧ Alls acc ∧ Hid (M.union fs more = M.union acc (more.drop k))) (fun _ i _ => more.length - (intOf i).toNat)
  case atStart => exact ⟨0, fs, Nat.zero_le _, rfl, HOWN.out, HO1.out, HF.out, Lib.hid rfl⟩
  case round =>
    obtain ⟨k, acc, hk, rfl, hown, ho, hal, hun⟩ := hrel
    have HO := Lib.hid ho
    have HOWN := Lib.hid hown
    have HAL := Lib.hid hal
    clear ho hown hal
    by_cases hlt : k < more.length
    · obtain ⟨b, off, rfl, hb, hc⟩ := (H2.out.old HO.out).at (by intro h; rw [h] at hlt; exact absurd hlt (Nat.not_lt_zero _))
      obtain ⟨hc0, hc1⟩ := hc k hlt
      have hsm := HF2.out _ (List.getElem_mem hlt)
      have hst := hun.out
      rw [List.drop_eq_getElem_cons hlt, M.union] at hst
      clear hc
      generalize more[k] = f at *
      have HG := Lib.hid (rwith_any u6 acc f wr HOWN.out.fl HAL.out hsm)
      have HAW := Lib.hid (fun he => with_alls (f := f) HAL.out hsm he)
      have HST := Lib.hid hst
      clear hst hsm
      generalize M.withF acc f = x at *
      obtain ⟨xs, xe⟩ := x
      simp only at HG HAW HST
      by_cases hxe : xe = 0
      · subst hxe
        go_wp2_with ((with_reducible refine HG.out.mono ?_); rintro e w3 ⟨o, rfl, hown3, ho3⟩)
        go_roundw
        case rel =>
          have hst := HST.out
          rw [if_neg (by decide)] at hst
          exact ⟨k + 1, xs, by omega, by go_num, hown3.mono HO.out.size, HO.out.trans ho3, HAW.out trivial, Lib.hid hst⟩
        case measure => simp [intOf]; omega
      · go_wp2_with ((with_reducible refine HG.out.mono ?_); rintro e w3 ⟨o, rfl, hown3, ho3⟩)
        go_ret2
        have hst := HST.out
        rw [if_pos hxe] at hst
        rw [hst]
        exact ⟨_, rfl, Own.nil _ _, HO.out.trans ho3⟩
    · obtain rfl : k = more.length := by omega
      have hst := hun.out
      rw [List.drop_of_length_le (Nat.le_refl _), M.union] at hst
      go_wp2
      go_ret2
      rw [hst]
      exact ⟨_, rfl, HOWN.out, HO.out⟩
end Go.Proofs.YtcmbmbdjdkldoaaDoor
