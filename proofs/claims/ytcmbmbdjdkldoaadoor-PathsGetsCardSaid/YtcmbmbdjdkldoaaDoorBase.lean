/- What any walk of this seat leans on: worlds that differ in some blocks alone, blocks known whole, small equations. -/
import Derived.Test.YtcmbmbdjdkldoaaDoorRows
import Derived.WalkKit
import Derived.WalkSpells
import Derived.WalkLawsBesides
import Derived.Lib.Hide
import Derived.Handy
import Derived.Deep.QuietTactic
import Derived.BigQuiet
namespace Go.Proofs.YtcmbmbdjdkldoaaDoor
open Go.RowKit

/-- Outside the blocks of S the world w' is as w was. -/
structure Keep (S : Nat → Prop) (w w' : World) : Prop where
  os : w'.os = w.os
  tape : w'.tape = w.tape
  output : w'.output = w.output
  size : w.heap.size ≤ w'.heap.size
  block : ∀ k, k < w.heap.size → ¬ S k → w'.heap[k]? = w.heap[k]?

theorem Keep.refl (S : Nat → Prop) (w : World) : Keep S w w := ⟨rfl, rfl, rfl, Nat.le_refl _, fun _ _ _ => rfl⟩
theorem Keep.trans {S : Nat → Prop} {a b c : World} (h : Keep S a b) (k : Keep S b c) : Keep S a c :=
  ⟨k.os.trans h.os, k.tape.trans h.tape, k.output.trans h.output, Nat.le_trans h.size k.size, fun i hi hs => (k.block i (Nat.lt_of_lt_of_le hi h.size) hs).trans (h.block i hi hs)⟩
theorem Keep.mono {S T : Nat → Prop} {w w' : World} (h : Keep S w w') (hST : ∀ k, k < w.heap.size → S k → T k) : Keep T w w' :=
  ⟨h.os, h.tape, h.output, h.size, fun k hk hs => h.block k hk (fun hS => hs (hST k hk hS))⟩
theorem Keep.drew {S : Nat → Prop} {a w : World} (h : Keep S a w) : Keep S a w.drew := ⟨h.os, h.tape, h.output, h.size, h.block⟩
theorem Keep.drewN {S : Nat → Prop} {a w : World} (h : Keep S a w) (n : Nat) : Keep S a (w.drewN n) := ⟨h.os, h.tape, h.output, h.size, h.block⟩
theorem Keep.alloc {S : Nat → Prop} {a w : World} (h : Keep S a w) (o : Obj) : Keep S a (w.alloc o) :=
  h.trans ⟨rfl, rfl, rfl, by simp, fun k hk _ => Below.heap_alloc _ _ _ hk⟩
theorem Keep.setCell {S : Nat → Prop} {a w : World} (h : Keep S a w) {p : Addr} (hp : a.heap.size ≤ p.block ∨ S p.block) (u : Value) : Keep S a (w.setCell p u) :=
  ⟨h.os, h.tape, h.output, by have := h.size; simpa [World.setCell] using this, fun k hk hs => (Below.heap_setCell _ _ _ _ (by rintro rfl; rcases hp with hp | hp; omega; exact hs hp)).trans (h.block k hk hs)⟩
theorem Keep.set1 {a w : World} {b : Nat} (h : Keep (· = b) a w) (i : Nat) (u : Value) : Keep (· = b) a (w.setCell ⟨b, i, none⟩ u) := h.setCell (Or.inr rfl) u
theorem Keep.of_below {B : Nat} {w w' : World} (h : Below B w w') : Keep (fun k => B ≤ k) w w' := ⟨h.os, h.tape, h.output, h.size, fun k _ hs => h.block k (by omega)⟩
theorem Keep.below {S : Nat → Prop} {w w' : World} (h : Keep S w w') {B : Nat} (hB : B ≤ w.heap.size) (hS : ∀ k, k < B → ¬ S k) : Below B w w' :=
  ⟨h.os, h.tape, h.output, h.size, fun k hk => h.block k (Nat.lt_of_lt_of_le hk hB) (hS k hk)⟩
/-- Nothing of what was there has turned. -/
abbrev Old (w w' : World) : Prop := Below w.heap.size w w'
theorem Keep.of_old {S : Nat → Prop} {w w' : World} (h : Old w w') : Keep S w w' := ⟨h.os, h.tape, h.output, h.size, fun k hk _ => h.block k hk⟩
theorem Old.trans {a b c : World} (h : Old a b) (k : Old b c) : Old a c := Below.trans h (k.mono h.size)
theorem Old.drewN (w : World) (n : Nat) : Old w (w.drewN n) := ⟨rfl, rfl, rfl, Nat.le_refl _, fun _ _ => rfl⟩
theorem Old.alloc (w : World) (o : Obj) : Old w (w.alloc o) := (Below.refl _ _).alloc (Nat.le_refl _) o
/-- Blocks made since are free to be written. -/
theorem Keep.old {S : Nat → Prop} {a w : World} (h : Keep S a w) (hS : ∀ k, k < a.heap.size → ¬ S k) : Old a w := h.below (Nat.le_refl _) hS

/-- The whole of block b, nothing of it frozen. -/
def Blk (w : World) (b : Nat) (vs : Array Value) (T : TypeId) : Prop := w.heap[b]? = some (.cells vs T (0, 0))
theorem Blk.lt {w : World} {b : Nat} {vs : Array Value} {T : TypeId} (h : Blk w b vs T) : b < w.heap.size := (Array.getElem?_eq_some_iff.1 h).1
theorem Blk.cell {w : World} {b : Nat} {vs : Array Value} {T : TypeId} (h : Blk w b vs T) (i : Nat) : w.cell? ⟨b, i, none⟩ = vs[i]? := by
  unfold Blk at h; simp [World.cell?, h]
theorem Blk.cellN {w : World} {b : Nat} {vs : Array Value} {T : TypeId} (h : Blk w b vs T) (i : Nat) {v : Value} (hv : vs[i]? = some v) : w.cell? ⟨b, i, none⟩ = some v := (h.cell i).trans hv
theorem Blk.free {w : World} {b : Nat} {vs : Array Value} {T : TypeId} (h : Blk w b vs T) (i : Nat) : w.frozen? ⟨b, i, none⟩ = false := by
  unfold Blk at h; simp [World.frozen?, h]
theorem Blk.keep {S : Nat → Prop} {w w' : World} {b : Nat} {vs : Array Value} {T : TypeId} (h : Blk w b vs T) (k : Keep S w w') (hb : ¬ S b) : Blk w' b vs T := (k.block b h.lt hb).trans h
theorem Blk.old {w w' : World} {b : Nat} {vs : Array Value} {T : TypeId} (h : Blk w b vs T) (k : Old w w') : Blk w' b vs T := (k.block b h.lt).trans h
theorem Blk.drewN {w : World} {b : Nat} {vs : Array Value} {T : TypeId} (h : Blk w b vs T) (n : Nat) : Blk (w.drewN n) b vs T := h
theorem Blk.new (w : World) (vs : Array Value) (T : TypeId) : Blk (w.alloc (.cells vs T)) w.heap.size vs T := by
  unfold Blk World.alloc
  simp
theorem Blk.alloc {w : World} {b : Nat} {vs : Array Value} {T : TypeId} (h : Blk w b vs T) (o : Obj) : Blk (w.alloc o) b vs T := h.old (Old.alloc w o)
theorem Blk.set {w : World} {b : Nat} {vs : Array Value} {T : TypeId} (h : Blk w b vs T) (i : Nat) (v : Value) : Blk (w.setCell ⟨b, i, none⟩ v) b (vs.setIfInBounds i v) T := by
  unfold Blk at h ⊢
  simp [World.setCell, Array.getElem?_modify, h]
theorem Blk.setOther {w : World} {b : Nat} {vs : Array Value} {T : TypeId} (h : Blk w b vs T) {p : Addr} (hp : b ≠ p.block) (v : Value) : Blk (w.setCell p v) b vs T :=
  (Below.heap_setCell _ _ _ _ hp).trans h

/-- The slice v reads as the values xs, one cell each, out of a block below B. -/
def Sl (B : Nat) (w : World) (v : Value) (xs : List Value) : Prop :=
  ∃ p cap, v = .slice p xs.length cap ∧ (p = none → cap = 0) ∧ (xs ≠ [] → ∃ b off, p = some ⟨b, off, none⟩ ∧ b < B ∧ ∀ j, j < xs.length → w.cell? ⟨b, off + j, none⟩ = xs[j]?)
theorem Sl.below {B : Nat} {w w' : World} {v : Value} {xs : List Value} (h : Sl B w v xs) (k : Below B w w') : Sl B w' v xs := by
  obtain ⟨p, cap, hv, h0, hx⟩ := h
  refine ⟨p, cap, hv, h0, fun hne => ?_⟩
  obtain ⟨b, off, hp, hb, hc⟩ := hx hne
  exact ⟨b, off, hp, hb, fun j hj => (k.cell (p := ⟨b, off + j, none⟩) hb).trans (hc j hj)⟩
theorem Sl.mono {B B' : Nat} {w : World} {v : Value} {xs : List Value} (h : Sl B w v xs) (hB : B ≤ B') : Sl B' w v xs := by
  obtain ⟨p, cap, hv, h0, hx⟩ := h
  refine ⟨p, cap, hv, h0, fun hne => ?_⟩
  obtain ⟨b, off, hp, hb, hc⟩ := hx hne
  exact ⟨b, off, hp, by omega, hc⟩

theorem Sl.keep {S : Nat → Prop} {B : Nat} {w w' : World} {v : Value} {xs : List Value} (h : Sl B w v xs) (k : Keep S w w') (hS : ∀ g, v.ownBlock = some g → ¬ S g) : Sl B w' v xs := by
  obtain ⟨p, cap, hv, h0, hx⟩ := h
  refine ⟨p, cap, hv, h0, fun hne => ?_⟩
  obtain ⟨b, off, hp, hb, hc⟩ := hx hne
  refine ⟨b, off, hp, hb, fun j hj => ?_⟩
  have hcj := hc j hj
  have hlt : b < w.heap.size := by
    have e : xs[j]? = some xs[j] := List.getElem?_eq_getElem hj
    exact World.block_lt_of_cell? _ _ (hcj.trans e)
  have hb' := k.block b hlt (hS b (by rw [hv, hp]; rfl))
  rw [← hcj]
  exact World.cell?_of_block (w := w) hb'
/-- What the call owns, it may hand out to be read. -/
theorem Sl.of_row {B : Nat} {w : World} {e : TypeId} {v : Value} {xs : List Value} (h : w.ownsRow B e 1 v xs.length xs) : Sl w.heap.size w v xs := by
  obtain ⟨_, ⟨hv, hn⟩ | ⟨g, cap, cur, hv, hg, hb, hcap, hmax, hsz, htake⟩⟩ := h
  · exact ⟨none, 0, by rw [hv, hn], fun _ => rfl, fun hne => absurd (List.eq_nil_of_length_eq_zero hn) hne⟩
  · refine ⟨_, cap, hv, (fun h => by cases h), fun _ => ⟨g, 0, rfl, (Array.getElem?_eq_some_iff.1 hb).1, fun j hj => ?_⟩⟩
    have : xs[j]? = cur[j]? := by
      rw [← htake, Nat.mul_one, List.getElem?_take, if_pos hj]; simp
    rw [this]
    simp [World.cell?, hb]
theorem row_from {B sz : Nat} {w : World} {e : TypeId} {n : Nat} {v : Value} {xs : List Value} (h : w.ownsRow B e sz v n xs) : ∀ g, v.ownBlock = some g → B ≤ g := by
  intro g hg
  obtain ⟨_, ⟨hv, hn⟩ | ⟨g', cap, cur, hv, hB, _⟩⟩ := h
  · rw [hv] at hg; cases hg
  · rw [hv] at hg
    have : g' = g := by simpa [Value.ownBlock] using hg
    omega
theorem row_keep {S : Nat → Prop} {B sz : Nat} {w w' : World} {e : TypeId} {n : Nat} {v : Value} {xs : List Value} (h : w.ownsRow B e sz v n xs) (k : Keep S w w') (hS : ∀ g, B ≤ g → ¬ S g) : w'.ownsRow B e sz v n xs := by
  refine ⟨h.1, ?_⟩
  rcases h.2 with hn | ⟨g, cap, cur, hv, hB, hb, rest⟩
  · exact Or.inl hn
  · exact Or.inr ⟨g, cap, cur, hv, hB, (k.block g (Array.getElem?_eq_some_iff.1 hb).1 (hS g hB)).trans hb, rest⟩
/-- Behind an append to a row of the call's own. -/
theorem Keep.grown {S : Nat → Prop} {a w w' : World} {row : Option Nat} (h : Keep S a w) (hg : w.grownBy w' row) (hr : ∀ k, row = some k → a.heap.size ≤ k ∨ S k) : Keep S a w' :=
  ⟨hg.os.trans h.os, hg.tape.trans h.tape, hg.output.trans h.output, Nat.le_trans h.size hg.size, fun k hk hs => (hg.block k (Nat.lt_of_lt_of_le hk h.size) (fun e => by rcases hr k e.symm with h1 | h1; omega; exact hs h1)).trans (h.block k hk hs)⟩
theorem Blk.grown {w w' : World} {row : Option Nat} {b : Nat} {vs : Array Value} {T : TypeId} (h : Blk w b vs T) (hg : w.grownBy w' row) (hr : row ≠ some b) : Blk w' b vs T :=
  (hg.block b h.lt (fun e => hr e.symm)).trans h

theorem ba_eq {a : ByteArray} {l : List UInt8} (h : a.data.toList = l) : a = ⟨⟨l⟩⟩ := by subst h; rfl
theorem ba_inj {a b : ByteArray} (h : a.data.toList = b.data.toList) : a = b := (ba_eq h).trans rfl
theorem ba_list (l : List UInt8) : (ByteArray.mk ⟨l⟩).data.toList = l := rfl
theorem ret_int {k : IntKind} {a b : Int} (h : a = b) : Ending.returned (.int k a) = .returned (.int k b) := by rw [h]
theorem ret_int2 {a b c d : Int} (h : a = b) (h' : c = d) : Ending.returned (.tuple #[.int .i64 a, .int .i64 c]) = .returned (.tuple #[.int .i64 b, .int .i64 d]) := by rw [h, h']
theorem ret_bool {a b : Bool} (h : a = b) : Ending.returned (.bool a) = .returned (.bool b) := by rw [h]
theorem ret_str {a b : ByteArray} (h : a = b) : Ending.returned (.string a) = .returned (.string b) := by rw [h]

theorem var_old {w w' : World} {name : String} {g : Nat} {x : Array Value} (hg : Tryd.prog.globalNamed name = some g) (h : w.var? Tryd.prog name = some x) (hb : g < w.heap.size → w'.heap[g]? = w.heap[g]?) : w'.var? Tryd.prog name = some x := by
  unfold World.var? at h ⊢
  rw [hg] at h ⊢
  simp only [Option.bind_some] at h ⊢
  by_cases hl : g < w.heap.size
  · rw [hb hl]; exact h
  · rw [Array.getElem?_eq_none (by omega)] at h; cases h
end Go.Proofs.YtcmbmbdjdkldoaaDoor
