/- Rows that the call owns, and what is proved once behind ways that meet. -/
import Derived.Test.YtcmbmbdjdkldoaaDoorBase
import Derived.Laws.Rows
import Derived.Laws.Tables
import Derived.Lib.AppendStr
import Derived.Laws.AppendOwnNone
import Derived.Lib.BufferRead
namespace Go.Proofs.YtcmbmbdjdkldoaaDoor
open Go.RowKit

/-- What is proved once, behind ways that come to one end. -/
structure Kept (p : Prop) : Prop where
  out : p
theorem cut_here {G C : Prop} (h : Kept C → G) (c : C) : G := h ⟨c⟩

/-- The block b begins with these values. -/
def Row (w : World) (b : Nat) (xs : List Value) (T : TypeId) : Prop := ∃ rest : List Value, Blk w b (xs ++ rest).toArray T
theorem Row.cellN {w : World} {b : Nat} {xs : List Value} {T : TypeId} (h : Row w b xs T) (i : Nat) {v : Value} (hv : xs[i]? = some v) : w.cell? ⟨b, i, none⟩ = some v := by
  obtain ⟨rest, h⟩ := h
  refine h.cellN i ?_
  have hi := (List.getElem?_eq_some_iff.1 hv).1
  rw [List.getElem?_toArray, List.getElem?_append_left hi, hv]
theorem Row.free {w : World} {b : Nat} {xs : List Value} {T : TypeId} (h : Row w b xs T) (i : Nat) : w.frozen? ⟨b, i, none⟩ = false := by
  obtain ⟨rest, h⟩ := h
  exact h.free i
theorem Row.keep {S : Nat → Prop} {w w' : World} {b : Nat} {xs : List Value} {T : TypeId} (h : Row w b xs T) (k : Keep S w w') (hb : ¬ S b) : Row w' b xs T := by
  obtain ⟨rest, h⟩ := h
  exact ⟨rest, h.keep k hb⟩
theorem Row.old {w w' : World} {b : Nat} {xs : List Value} {T : TypeId} (h : Row w b xs T) (k : Old w w') : Row w' b xs T := by
  obtain ⟨rest, h⟩ := h
  exact ⟨rest, h.old k⟩
theorem Row.drewN {w : World} {b : Nat} {xs : List Value} {T : TypeId} (h : Row w b xs T) (n : Nat) : Row (w.drewN n) b xs T := h
theorem Row.lt {w : World} {b : Nat} {xs : List Value} {T : TypeId} (h : Row w b xs T) : b < w.heap.size := by
  obtain ⟨rest, h⟩ := h
  exact h.lt
theorem Row.set {w : World} {b : Nat} {xs : List Value} {T : TypeId} (h : Row w b xs T) {i : Nat} (hi : i < xs.length) (v : Value) : Row (w.setCell ⟨b, i, none⟩ v) b (xs.set i v) T := by
  obtain ⟨rest, h⟩ := h
  refine ⟨rest, ?_⟩
  have := h.set i v
  rwa [List.setIfInBounds_toArray, List.set_append_left _ _ hi] at this
theorem Row.of_blk {w : World} {b : Nat} {xs : List Value} {T : TypeId} (h : Blk w b xs.toArray T) : Row w b xs T := ⟨[], by rwa [List.append_nil]⟩


theorem Sl.len {B : Nat} {w : World} {v : Value} {xs : List Value} (h : Sl B w v xs) : ∃ p cap, v = .slice p xs.length cap := by
  obtain ⟨p, cap, hv, _⟩ := h
  exact ⟨p, cap, hv⟩
theorem Sl.at {B : Nat} {w : World} {p : Option Addr} {n cap : Nat} {xs : List Value} (h : Sl B w (.slice p n cap) xs) (hne : xs ≠ []) :
    ∃ b off, p = some ⟨b, off, none⟩ ∧ b < B ∧ ∀ j, j < xs.length → w.cell? ⟨b, off + j, none⟩ = xs[j]? := by
  obtain ⟨p', cap', hv, _, hx⟩ := h
  injection hv with h1 h2 h3
  subst h1
  exact hx hne
theorem Sl.len' {B : Nat} {w : World} {p : Option Addr} {n cap : Nat} {xs : List Value} (h : Sl B w (.slice p n cap) xs) : xs.length = n := by
  obtain ⟨p', cap', hv, _, hx⟩ := h
  injection hv with h1 h2 h3
  exact h2.symm

end Go.Proofs.YtcmbmbdjdkldoaaDoor
