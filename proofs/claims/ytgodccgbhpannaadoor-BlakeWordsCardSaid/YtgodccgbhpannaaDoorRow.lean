/- Rows and texts that the call owns, and what is proved once behind ways that meet. -/
import Derived.Test.YtgodccgbhpannaaDoorBase
import Derived.Laws.Rows
import Derived.Laws.Tables
import Derived.Lib.AppendStr
import Derived.Laws.AppendOwnNone
import Derived.Lib.BufferRead
namespace Go.Proofs.YtgodccgbhpannaaDoor
open Go.RowKit

/-- What is proved once, behind ways that come to one end. -/
structure Kept (p : Prop) : Prop where
  out : p
theorem cut_here {G C : Prop} (h : Kept C → G) (c : C) : G := h ⟨c⟩

/-- The block b begins with these values. -/
def Row (w : World) (b : Nat) (xs : List Value) (T : TypeId) : Prop := ∃ rest : List Value, Blk w b (xs ++ rest).toArray T
theorem Row.cellN {w : World} {b : Nat} {xs : List Value} {T : TypeId} (h : Row w b xs T) (i : Nat) {v : Value} (hv : xs[i]? = some v) : w.cell? ⟨b, i, none⟩ = some v := by
  obtain ⟨rest, h⟩ := h
  refine h.cellN i ?_
  have hi := (List.getElem?_eq_some_iff.1 hv).1
  rw [List.getElem?_toArray, List.getElem?_append_left hi, hv]
theorem Row.free {w : World} {b : Nat} {xs : List Value} {T : TypeId} (h : Row w b xs T) (i : Nat) : w.frozen? ⟨b, i, none⟩ = false := by
  obtain ⟨rest, h⟩ := h
  exact h.free i
theorem Row.keep {S : Nat → Prop} {w w' : World} {b : Nat} {xs : List Value} {T : TypeId} (h : Row w b xs T) (k : Keep S w w') (hb : ¬ S b) : Row w' b xs T := by
  obtain ⟨rest, h⟩ := h
  exact ⟨rest, h.keep k hb⟩
theorem Row.old {w w' : World} {b : Nat} {xs : List Value} {T : TypeId} (h : Row w b xs T) (k : Old w w') : Row w' b xs T := by
  obtain ⟨rest, h⟩ := h
  exact ⟨rest, h.old k⟩
theorem Row.drewN {w : World} {b : Nat} {xs : List Value} {T : TypeId} (h : Row w b xs T) (n : Nat) : Row (w.drewN n) b xs T := h
theorem Row.lt {w : World} {b : Nat} {xs : List Value} {T : TypeId} (h : Row w b xs T) : b < w.heap.size := by
  obtain ⟨rest, h⟩ := h
  exact h.lt
theorem Row.set {w : World} {b : Nat} {xs : List Value} {T : TypeId} (h : Row w b xs T) {i : Nat} (hi : i < xs.length) (v : Value) : Row (w.setCell ⟨b, i, none⟩ v) b (xs.set i v) T := by
  obtain ⟨rest, h⟩ := h
  refine ⟨rest, ?_⟩
  have := h.set i v
  rwa [List.setIfInBounds_toArray, List.set_append_left _ _ hi] at this
theorem Row.of_blk {w : World} {b : Nat} {xs : List Value} {T : TypeId} (h : Blk w b xs.toArray T) : Row w b xs T := ⟨[], by rwa [List.append_nil]⟩


theorem Sl.len {B : Nat} {w : World} {v : Value} {xs : List Value} (h : Sl B w v xs) : ∃ p cap, v = .slice p xs.length cap := by
  obtain ⟨p, cap, hv, _⟩ := h
  exact ⟨p, cap, hv⟩
theorem Sl.at {B : Nat} {w : World} {p : Option Addr} {n cap : Nat} {xs : List Value} (h : Sl B w (.slice p n cap) xs) (hne : xs ≠ []) :
    ∃ b off, p = some ⟨b, off, none⟩ ∧ b < B ∧ ∀ j, j < xs.length → w.cell? ⟨b, off + j, none⟩ = xs[j]? := by
  obtain ⟨p', cap', hv, _, hx⟩ := h
  injection hv with h1 h2 h3
  subst h1
  exact hx hne
theorem Sl.len' {B : Nat} {w : World} {p : Option Addr} {n cap : Nat} {xs : List Value} (h : Sl B w (.slice p n cap) xs) : xs.length = n := by
  obtain ⟨p', cap', hv, _, hx⟩ := h
  injection hv with h1 h2 h3
  exact h2.symm

/-- One byte, as a text. -/
theorem conv_one (c : UInt8) (n : Int) (hn : (c.toNat : Int) = n) (w : World) (b : Nat) (h : w.cell? ⟨b, 0, none⟩ = some (.int .u8 n)) :
    (convert 26 9 (.slice (some ⟨b, 0, none⟩) 1 1)).run Tryd.prog w = .ok (.string ⟨⟨[c]⟩⟩) w := by
  refine run_convert_bytes_back (P := Tryd.prog) _ _ _ 5 ⟨b, 0, none⟩ 1 [c] Tryd.underlying26 Tryd.underlying5 Tryd.underlying9 ?_
  intro j hj
  match j, hj with
  | 0, _ => simp [Addr.add, hn, h]

theorem infoByte : (Tryd.prog.info? 5).map (fun i => (i.zero, i.size, i.bytes)) = some (some (.int .u8 0), 1, 1) := by kernel_rfl

/-- Bytes that the call owns, as a text. -/
theorem conv_row (w : World) (B : Nat) (v : Value) (l : List UInt8) (h : w.ownsRow B 5 1 v l.length (Lib.byteCells l)) :
    (convert 26 9 v).run Tryd.prog w = .ok (.string ⟨⟨l⟩⟩) w := by
  obtain ⟨_, ⟨hv, hn⟩ | ⟨g, cap, cur, hv, _, hb, hcap, hmax, hsz, htake⟩⟩ := h
  · obtain rfl : l = [] := List.eq_nil_of_length_eq_zero hn
    rw [hv]
    exact Lib.run_convert_nil_bytes (P := Tryd.prog) w _ _ 5 0 Tryd.underlying26 Tryd.underlying5 Tryd.underlying9
  · rw [hv]
    refine run_convert_bytes_back (P := Tryd.prog) w _ _ 5 ⟨g, 0, none⟩ cap l Tryd.underlying26 Tryd.underlying5 Tryd.underlying9 ?_
    intro j hj
    have : (Lib.byteCells l)[j]? = cur[j]? := by rw [← htake, Nat.mul_one, List.getElem?_take, if_pos hj]; simp
    have hx : w.cell? (Addr.add ⟨g, 0, none⟩ j) = cur[j]? := by
      unfold Addr.add
      split
      · rename_i h0; subst h0; simp [World.cell?, hb]
      · simp [World.cell?, hb]
    rw [hx, ← this]
    simp [Lib.byteCells, hj]

end Go.Proofs.YtgodccgbhpannaaDoor
