/- The program's tests of one file, and the search for the first file of a kind. -/
import Derived.Test.YtcmbmbdjdkldoaaDoorPathsB
namespace Go.Proofs.YtcmbmbdjdkldoaaDoor
open Go.RowKit

/-- What is asked of a test that is handed on: whatever world has come of w, it answers p and leaves all that was there. -/
def Tests (g : Nat) (lb : Array Value) (p : M.Fi → Bool) (ok : M.Fi → Prop) (w : World) : Prop :=
  ∀ (W : World) (f : M.Fi), ok f → Old w W → Calls Tryd.prog g (#[fv f] ++ lb) W fun e w' => e = .returned (.bool (p f)) ∧ Old W w'

def Small (f : M.Fi) : Prop := f.1.length ≤ 1099511627776 ∧ f.2.length ≤ 1099511627776

theorem hasKin1 (s : List UInt8) (hs : s.length ≤ 1099511627776) (b : Nat) (w : World) (hc : w.cell? ⟨b, 0, none⟩ = some (S s)) :
    Tests 53 #[.pointer (some ⟨b, 0, none⟩)] (fun g => M.below s g.1 || M.below g.1 s) Small w := fun W f hf ho => by
  have hb := World.block_lt_of_cell? _ _ hc
  have hcW : ∀ o, (W.alloc o).cell? ⟨b, 0, none⟩ = some (S s) := fun o => (((ho.trans (Old.alloc W o))).cell (p := ⟨b, 0, none⟩) hb).trans hc
  have H1 := Lib.hid (fun w1 => isBelow_any s f.1 hs hf.1 w1)
  have H2 := Lib.hid (fun w1 => isBelow_any f.1 s hf.1 hs w1)
  clear hc ho hb
  show Calls Tryd.prog 53 #[.agg #[.string ⟨⟨f.1⟩⟩, .string ⟨⟨f.2⟩⟩], .pointer (some ⟨b, 0, none⟩)] W _
  obtain ⟨fp, fd⟩ := f
  simp only at H1 H2 ⊢
  generalize M.below s fp = r1 at *
  generalize M.below fp s = r2 at *
  cases r1 with
  | true =>
    go_enter Tryd.func53, Tryd.ntmps53
    go_wp2_with ((with_reducible refine (H1.out _).mono ?_); rintro e w1 ⟨rfl, rfl⟩)
    go_ret
    exact ⟨rfl, Old.alloc _ _⟩
  | false =>
    go_enter Tryd.func53, Tryd.ntmps53
    go_wp2_with (first
      | ((with_reducible refine (H1.out _).mono ?_); rintro e w1 ⟨rfl, rfl⟩)
      | ((with_reducible refine (H2.out _).mono ?_); rintro e w1 ⟨rfl, rfl⟩))
    go_ret
    exact ⟨rfl, Old.alloc _ _⟩

theorem beq_list (a b : List UInt8) : (a == b) = decide (a = b) := by rw [Bool.eq_iff_iff]; simp

theorem find1 (s : List UInt8) (b : Nat) (w : World) (hc : w.cell? ⟨b, 0, none⟩ = some (S s)) :
    Tests 55 #[.pointer (some ⟨b, 0, none⟩)] (fun g => g.1 == s) (fun _ => True) w := fun W f _ ho => by
  have hb := World.block_lt_of_cell? _ _ hc
  have hcW : ∀ o, (W.alloc o).cell? ⟨b, 0, none⟩ = some (S s) := fun o => (((ho.trans (Old.alloc W o))).cell (p := ⟨b, 0, none⟩) hb).trans hc
  clear hc ho hb
  show Calls Tryd.prog 55 #[.agg #[.string ⟨⟨f.1⟩⟩, .string ⟨⟨f.2⟩⟩], .pointer (some ⟨b, 0, none⟩)] W _
  obtain ⟨fp, fd⟩ := f
  simp only
  go_enter Tryd.func55, Tryd.ntmps55
  go_wp2
  go_ret
  exact ⟨rfl, Old.alloc _ _⟩

theorem without1 (s : List UInt8) (hs : s.length ≤ 1099511627776) (b : Nat) (w : World) (hc : w.cell? ⟨b, 0, none⟩ = some (S s)) :
    Tests 46 #[.pointer (some ⟨b, 0, none⟩)] (fun g => g.1 == s || M.below g.1 s) Small w := fun W f hf ho => by
  have hb := World.block_lt_of_cell? _ _ hc
  have hcW : ∀ o, (W.alloc o).cell? ⟨b, 0, none⟩ = some (S s) := fun o => (((ho.trans (Old.alloc W o))).cell (p := ⟨b, 0, none⟩) hb).trans hc
  have H2 := Lib.hid (fun w1 => isBelow_any f.1 s hf.1 hs w1)
  clear hc ho hb
  show Calls Tryd.prog 46 #[.agg #[.string ⟨⟨f.1⟩⟩, .string ⟨⟨f.2⟩⟩], .pointer (some ⟨b, 0, none⟩)] W _
  obtain ⟨fp, fd⟩ := f
  simp only at H2 ⊢
  generalize M.below fp s = r2 at *
  by_cases hr : fp = s
  · have e1 : (fp == s) = true := by rw [beq_list, decide_eq_true hr]
    clear hr
    go_enter Tryd.func46, Tryd.ntmps46
    go_wp2_with ((with_reducible refine (H2.out _).mono ?_); rintro e w1 ⟨rfl, rfl⟩)
    go_ret
    exact ⟨ret_bool (by rw [e1]; rfl), Old.alloc _ _⟩
  · have e1 : (fp == s) = false := by rw [beq_list, decide_eq_false hr]
    clear hr
    go_enter Tryd.func46, Tryd.ntmps46
    go_wp2_with ((with_reducible refine (H2.out _).mono ?_); rintro e w1 ⟨rfl, rfl⟩)
    go_ret
    exact ⟨ret_bool (by rw [e1]; rfl), Old.alloc _ _⟩

theorem under1 (s : List UInt8) (hs : s.length ≤ 1099511627776) (b : Nat) (w : World) (hc : w.cell? ⟨b, 0, none⟩ = some (S s)) :
    Tests 48 #[.pointer (some ⟨b, 0, none⟩)] (fun g => !M.below g.1 s) Small w := fun W f hf ho => by
  have hb := World.block_lt_of_cell? _ _ hc
  have hcW : ∀ o, (W.alloc o).cell? ⟨b, 0, none⟩ = some (S s) := fun o => (((ho.trans (Old.alloc W o))).cell (p := ⟨b, 0, none⟩) hb).trans hc
  have H2 := Lib.hid (fun w1 => isBelow_any f.1 s hf.1 hs w1)
  clear hc ho hb
  show Calls Tryd.prog 48 #[.agg #[.string ⟨⟨f.1⟩⟩, .string ⟨⟨f.2⟩⟩], .pointer (some ⟨b, 0, none⟩)] W _
  obtain ⟨fp, fd⟩ := f
  simp only at H2 ⊢
  generalize M.below fp s = r2 at *
  go_enter Tryd.func48, Tryd.ntmps48
  go_wp2_with ((with_reducible refine (H2.out _).mono ?_); rintro e w1 ⟨rfl, rfl⟩)
  go_ret
  exact ⟨rfl, Old.alloc _ _⟩

theorem put1 (s : List UInt8) (b : Nat) (w : World) (hc : w.cell? ⟨b, 0, none⟩ = some (S s)) :
    Tests 57 #[.pointer (some ⟨b, 0, none⟩)] (fun g => !(M.bl g.1 s || g.1 == s)) (fun _ => True) w := fun W f _ ho => by
  have hb := World.block_lt_of_cell? _ _ hc
  have hcW : ∀ o, (W.alloc o).cell? ⟨b, 0, none⟩ = some (S s) := fun o => (((ho.trans (Old.alloc W o))).cell (p := ⟨b, 0, none⟩) hb).trans hc
  clear hc ho hb
  show Calls Tryd.prog 57 #[.agg #[.string ⟨⟨f.1⟩⟩, .string ⟨⟨f.2⟩⟩], .pointer (some ⟨b, 0, none⟩)] W _
  obtain ⟨fp, fd⟩ := f
  simp only
  go_enter Tryd.func57, Tryd.ntmps57
  go_wp2
  go_ret
  exact ⟨ret_bool (Bool.not_or _ _).symm, Old.alloc _ _⟩
end Go.Proofs.YtcmbmbdjdkldoaaDoor
