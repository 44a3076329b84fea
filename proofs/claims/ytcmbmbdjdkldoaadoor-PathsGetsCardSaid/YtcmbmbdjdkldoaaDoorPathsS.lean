/- The document's Same and Get. -/
import Derived.Test.YtcmbmbdjdkldoaaDoorPathsF
import Derived.Test.YtcmbmbdjdkldoaaDoorPathsR
import Derived.Laws.StructEq
import Derived.BigQuiet
namespace Go.Proofs.YtcmbmbdjdkldoaaDoor
open Go.RowKit

theorem drewN_add (w : World) (n m : Nat) : (w.drewN n).drewN m = w.drewN (n + m) := by simp [World.drewN, Nat.add_assoc]
theorem guard_file : Tryd.prog.eqGuardType Tryd.prog.depth 36 = false := by kernel_rfl
theorem neq_file (f g : M.Fi) (w : World) : Sem.run Tryd.prog (binOp .neq 36 (fv f) (fv g)) w = .ok (.bool (!decide (f = g))) w := by
  have u3 := Tryd.underlying9
  have hS : Tryd.prog.underlying 36 = some (.struct (Tryd.prog.fieldsOf 36)) := by kernel_rfl
  have hp : Tryd.prog.stoodInHeld 36 = false := by kernel_rfl
  rw [run_neq_struct, show (10000 : Nat) = 9999 + 1 from rfl, run_equalIn_agg w 9999 36 _ _ hS hp]
  simp only [Program.fieldsOf, Tryd.underlying36]
  have a3 := Tryd.isAgg9
  have z3 := Tryd.sizeOf9
  go_simp
  obtain ⟨f1, f2⟩ := f
  obtain ⟨g1, g2⟩ := g
  by_cases h1 : f1 = g1 <;> by_cases h2 : f2 = g2 <;> simp [h1, h2]

set_option maxHeartbeats 1000000 in
set_option maxRecDepth 100000 in
theorem same_any (v u : Value) (fs gs : List M.Fi) (w : World) (h : Fl w v fs) (h2 : Fl w u gs) (hl : fs.length ≤ maxLen) (_ : gs.length ≤ maxLen) :
    Calls Tryd.prog 27 #[v, u] w fun e w' => e = .returned (.bool (decide (fs = gs))) ∧ ∃ n, w' = w.drewN n := by
  unfold maxLen at hl
  obtain ⟨p, cap, rfl⟩ := h.len
  obtain ⟨p2, cap2, rfl⟩ := h2.len
  have H := Lib.hid h
  have H2 := Lib.hid h2
  clear h h2
  by_cases he : fs.length = gs.length
  · have hei : (fs.length : Int) = (gs.length : Int) := by omega
    go_enter Tryd.func27, Tryd.ntmps27
    go_wp2
    go_loopw [5] (fun i wr => ∃ k n : Nat, k ≤ fs.length ∧ i = .int .i64 k ∧ wr = w.drewN n ∧ Hid (∀ j (hj : j < fs.length), j < k → fs[j] = gs[j]'(by omega))) (fun i _ => fs.length - (intOf i).toNat)
    case atStart => exact ⟨0, 0, Nat.zero_le _, rfl, rfl, Lib.hid (fun j _ h => absurd h (Nat.not_lt_zero _))⟩
    case round =>
      obtain ⟨k, n, hk, rfl, rfl, hall⟩ := hrel
      by_cases hlt : k < fs.length
      · obtain ⟨b, off, rfl, hb, hc⟩ := (H.out.drewN n).at (by intro h; rw [h] at hlt; exact absurd hlt (Nat.not_lt_zero _))
        obtain ⟨b2, off2, rfl, hb2, hd⟩ := (H2.out.drewN n).at (by intro h; rw [h, List.length_nil] at he; omega)
        obtain ⟨c0, c1⟩ := hc k hlt
        obtain ⟨d0, d1⟩ := hd k (by omega)
        have HN := Lib.hid (show ∀ e : fs[k] = gs[k]'(by omega), ∀ j (hj : j < fs.length), j < k + 1 → fs[j] = gs[j]'(by omega) from fun e j hj hjk => by
          by_cases hjk2 : j = k
          · subst hjk2; exact e
          · exact hall.out j hj (by omega))
        have HNO := Lib.hid (show fs[k] ≠ gs[k]'(by omega) → decide (fs = gs) = false from fun e => decide_eq_false (fun h => e (by simp only [h])))
        have hlt2 : (k : Int) < (gs.length : Int) := by omega
        clear hc hd hb hb2
        generalize hf : fs[k] = f at *
        generalize (gs[k]'(by omega)) = g at *
        have hneq := neq_file f g
        have hgd := guard_file
        clear hf
        generalize hwq : w.drewN n = wq at *
        have HW := Lib.hid hwq
        clear hwq
        by_cases hfg : f = g
        · rw [decide_eq_true hfg] at hneq
          have HN' := Lib.hid (HN.out hfg)
          clear hfg HN
          go_wp2
          go_quiet (fail)
          go_wp2
          go_roundw
          case rel => exact ⟨k + 1, n + nq, by omega, by go_num, by rw [← HW.out, drewN_add], HN'⟩
          case measure => simp [intOf]; omega
        · rw [decide_eq_false hfg] at hneq
          have HN' := Lib.hid (HNO.out hfg)
          clear hfg HN
          go_wp2
          go_quiet (fail)
          go_wp2
          go_ret
          exact ⟨ret_bool HN'.out.symm, n + nq, by rw [← HW.out, drewN_add]⟩
      · obtain rfl : k = fs.length := by omega
        go_wp2
        go_ret
        exact ⟨ret_bool (decide_eq_true (List.ext_getElem he (fun j h1 h2 => hall.out j h1 h1))).symm, n, rfl⟩
  · have hei : ¬ ((fs.length : Int) = (gs.length : Int)) := by omega
    go_enter Tryd.func27, Tryd.ntmps27
    go_wp2
    go_ret
    exact ⟨ret_bool (decide_eq_false (fun h => he (by rw [h]))).symm, 0, rfl⟩

set_option maxHeartbeats 1000000 in
set_option maxRecDepth 100000 in
theorem rget_any (v : Value) (fs : List M.Fi) (s : List UInt8) (w : World) (h : Fl w v fs) (hlen : fs.length ≤ maxLen) :
    Calls Tryd.prog 26 #[v, S s] w fun e w' => e = .returned (.tuple #[S (M.get fs s).1, .bool (M.get fs s).2]) ∧ w' = w := by
  unfold maxLen at hlen
  obtain ⟨p, cap, rfl⟩ := h.len
  have H := Lib.hid h
  clear h
  go_enter Tryd.func26, Tryd.ntmps26
  go_wp2
  go_loopw [6] (fun i wr => ∃ k : Nat, k ≤ fs.length ∧ i = .int .i64 k ∧ wr = w ∧ Hid (M.get fs s = M.get (fs.drop k) s)) (fun i _ => fs.length - (intOf i).toNat)
  case atStart => exact ⟨0, Nat.zero_le _, rfl, rfl, Lib.hid rfl⟩
  case round =>
    obtain ⟨k, hk, rfl, rfl, hg⟩ := hrel
    by_cases hlt : k < fs.length
    · obtain ⟨b, off, rfl, hb, hc⟩ := H.out.at (by intro h; rw [h] at hlt; exact absurd hlt (Nat.not_lt_zero _))
      obtain ⟨c0, c1⟩ := hc k hlt
      have hgo := hg.out
      rw [List.drop_eq_getElem_cons hlt] at hgo
      clear hc hb hg
      generalize fs[k] = f at *
      by_cases he : f.1 = s
      · have e1 : (f.1 == s) = true := by rw [beq_list, decide_eq_true he]
        have HG := Lib.hid (show M.get fs s = (f.2, true) by rw [hgo]; unfold M.get; rw [List.find?_cons_of_pos (by exact e1)])
        clear he hgo
        go_wp2
        go_ret2
        rw [HG.out]
        exact ⟨rfl, rfl⟩
      · have e1 : (f.1 == s) = false := by rw [beq_list, decide_eq_false he]
        have HG := Lib.hid (show M.get fs s = M.get (fs.drop (k + 1)) s by rw [hgo]; unfold M.get; rw [List.find?_cons_of_neg (by rw [e1]; simp)])
        clear he hgo
        go_wp2
        go_roundw
        case rel => exact ⟨k + 1, by omega, by go_num, trivial, HG⟩
        case measure => simp [intOf]; omega
    · obtain rfl : k = fs.length := by omega
      have hgo := hg.out
      rw [List.drop_of_length_le (Nat.le_refl _)] at hgo
      go_wp2
      go_ret2
      rw [hgo]
      exact ⟨rfl, rfl⟩
end Go.Proofs.YtcmbmbdjdkldoaaDoor
