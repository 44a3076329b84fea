/- The two errors that strconv.Atoi names: they stay where old blocks stay; strconv.Atoi at every text. -/
import Derived.Test.YtflkinglgnkchaaDoorTab
import Derived.Test.YtflkinglgnkchaaDoorShelf
import Derived.Test.YtflkinglgnkchaaDoorNumM
namespace Go.Proofs.YtflkinglgnkchaaDoor
open Go.RowKit

/-- The variables ErrSyntax and ErrRange hold errors. -/
def Errs (w : World) : Prop := (∃ tp p, w.var? Tryd.prog "strconv.ErrSyntax" = some #[.iface tp p]) ∧ (∃ tp p, w.var? Tryd.prog "strconv.ErrRange" = some #[.iface tp p])
theorem errs_syntax : Tryd.prog.globalNamed "strconv.ErrSyntax" = some 0 := by kernel_rfl
theorem errs_range : Tryd.prog.globalNamed "strconv.ErrRange" = some 1 := by kernel_rfl
theorem Errs.keep {S : Nat → Prop} {w w' : World} (h : Errs w) (k : Keep S w w') (h1 : ¬ S 0) (h2 : ¬ S 1) : Errs w' := by
  obtain ⟨⟨t1, p1, e1⟩, ⟨t2, p2, e2⟩⟩ := h
  exact ⟨⟨t1, p1, var_old errs_syntax e1 (fun hl => k.block _ hl h1)⟩, ⟨t2, p2, var_old errs_range e2 (fun hl => k.block _ hl h2)⟩⟩
theorem Errs.old {w w' : World} (h : Errs w) (k : Old w w') : Errs w' := h.keep (Keep.of_old (S := fun _ => False) k) (fun h => h) (fun h => h)

theorem var_lt {w : World} {name : String} {g : Nat} {x : Array Value} (hg : Tryd.prog.globalNamed name = some g) (h : w.var? Tryd.prog name = some x) : g < w.heap.size := by
  unfold World.var? at h
  rw [hg] at h
  simp only [Option.bind_some] at h
  rcases Nat.lt_or_ge g w.heap.size with hl | hl
  · exact hl
  · rw [Array.getElem?_eq_none hl] at h; cases h

/-- strconv.Atoi: a number and nil, or an error. -/
theorem atoi_any (s : ByteArray) (hs : s.size ≤ 281474976710656) (w : World) (he : Errs w) :
    Calls Tryd.prog 37 #[.string s] w fun e w' => Old w w' ∧ ((∃ v, Lib.atoiAll s.data.toList = .ok v ∧ e = .returned (.tuple #[.int .i64 v, .nilIface])) ∨
      ((∀ v, Lib.atoiAll s.data.toList ≠ .ok v) ∧ ∃ v T p, e = .returned (.tuple #[.int .i64 v, .iface T p]))) := by
  obtain ⟨⟨t1, p1, e1⟩, ⟨t2, p2, e2⟩⟩ := he
  rcases h : Lib.atoiAll s.data.toList with v | _ | _
  · refine (Tryd.strconv_Atoi_ok s (by omega) v h w).mono ?_
    rintro e w' ⟨rfl, rfl | ⟨t, rfl⟩⟩
    · exact ⟨Below.refl _ _, Or.inl ⟨v, rfl, rfl⟩⟩
    · exact ⟨Lib.bytesWorld_below _ _ _, Or.inl ⟨v, rfl, rfl⟩⟩
  · refine (Any.strconv_Atoi_syntax_var Tryd.laysC172 s hs h t1 p1 w e1).mono ?_
    rintro e w' ⟨N, rfl, _, _, hb⟩
    exact ⟨hb, Or.inr ⟨fun v hv => by simp at hv, _, _, _, rfl⟩⟩
  · refine (Tryd.strconv_Atoi_range_var s hs h t2 p2 w e2).mono ?_
    rintro e w' ⟨N, rfl, _, _, hb⟩
    exact ⟨hb, Or.inr ⟨fun v hv => by simp at hv, _, _, _, rfl⟩⟩
end Go.Proofs.YtflkinglgnkchaaDoor
