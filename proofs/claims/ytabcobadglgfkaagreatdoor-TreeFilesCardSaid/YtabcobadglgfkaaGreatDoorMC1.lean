/- Merged of: Base Row RowB Bld NumM Tab Err Lift LaidM Laid. -/
import Derived.Test.YtabcobadglgfkaaGreatDoorRows
import Derived.Test.YtabcobadglgfkaaGreatDoorShelf
import Derived.WalkKit
import Derived.WalkSpells
import Derived.WalkLawsBesides
import Derived.Lib.Hide
import Derived.Handy
import Derived.Deep.QuietTactic
import Derived.BigQuiet
import Derived.Laws.Rows
import Derived.Laws.Tables
import Derived.Lib.AppendStr
import Derived.Laws.AppendOwnNone
import Derived.Lib.BufferRead
import Derived.Lib.FrozenHead2
import Derived.Lib.OthersKept
import Derived.Lib.ItoaNum
import Derived.Lib.AtoiAll
import Derived.Lib.AtoiAllCases
import Derived.Lib.LaidTab
import Derived.ProofKit
import Derived.LaidMore
import Derived.LaidLaws
import Derived.OpenShut
import Derived.SliceStrings
import Derived.Carry
import Derived.Stop.Joined
/- What any walk of this seat leans on: worlds that differ in some blocks alone, blocks known whole, small equations. -/
namespace Go.Proofs.YtabcobadglgfkaaGreatDoor
open Go.RowKit

/-- Outside the blocks of S the world w' is as w was. -/
structure Keep (S : Nat → Prop) (w w' : World) : Prop where
  os : w'.os = w.os
  tape : w'.tape = w.tape
  output : w'.output = w.output
  size : w.heap.size ≤ w'.heap.size
  block : ∀ k, k < w.heap.size → ¬ S k → w'.heap[k]? = w.heap[k]?

theorem Keep.refl (S : Nat → Prop) (w : World) : Keep S w w := ⟨rfl, rfl, rfl, Nat.le_refl _, fun _ _ _ => rfl⟩
theorem Keep.trans {S : Nat → Prop} {a b c : World} (h : Keep S a b) (k : Keep S b c) : Keep S a c :=
  ⟨k.os.trans h.os, k.tape.trans h.tape, k.output.trans h.output, Nat.le_trans h.size k.size, fun i hi hs => (k.block i (Nat.lt_of_lt_of_le hi h.size) hs).trans (h.block i hi hs)⟩
theorem Keep.mono {S T : Nat → Prop} {w w' : World} (h : Keep S w w') (hST : ∀ k, k < w.heap.size → S k → T k) : Keep T w w' :=
  ⟨h.os, h.tape, h.output, h.size, fun k hk hs => h.block k hk (fun hS => hs (hST k hk hS))⟩
theorem Keep.drew {S : Nat → Prop} {a w : World} (h : Keep S a w) : Keep S a w.drew := ⟨h.os, h.tape, h.output, h.size, h.block⟩
theorem Keep.drewN {S : Nat → Prop} {a w : World} (h : Keep S a w) (n : Nat) : Keep S a (w.drewN n) := ⟨h.os, h.tape, h.output, h.size, h.block⟩
theorem Keep.alloc {S : Nat → Prop} {a w : World} (h : Keep S a w) (o : Obj) : Keep S a (w.alloc o) :=
  h.trans ⟨rfl, rfl, rfl, by simp, fun k hk _ => Below.heap_alloc _ _ _ hk⟩
theorem Keep.setCell {S : Nat → Prop} {a w : World} (h : Keep S a w) {p : Addr} (hp : a.heap.size ≤ p.block ∨ S p.block) (u : Value) : Keep S a (w.setCell p u) :=
  ⟨h.os, h.tape, h.output, by have := h.size; simpa [World.setCell] using this, fun k hk hs => (Below.heap_setCell _ _ _ _ (by rintro rfl; rcases hp with hp | hp; omega; exact hs hp)).trans (h.block k hk hs)⟩
theorem Keep.set1 {a w : World} {b : Nat} (h : Keep (· = b) a w) (i : Nat) (u : Value) : Keep (· = b) a (w.setCell ⟨b, i, none⟩ u) := h.setCell (Or.inr rfl) u
theorem Keep.of_below {B : Nat} {w w' : World} (h : Below B w w') : Keep (fun k => B ≤ k) w w' := ⟨h.os, h.tape, h.output, h.size, fun k _ hs => h.block k (by omega)⟩
theorem Keep.below {S : Nat → Prop} {w w' : World} (h : Keep S w w') {B : Nat} (hB : B ≤ w.heap.size) (hS : ∀ k, k < B → ¬ S k) : Below B w w' :=
  ⟨h.os, h.tape, h.output, h.size, fun k hk => h.block k (Nat.lt_of_lt_of_le hk hB) (hS k hk)⟩
/-- Nothing of what was there has turned. -/
abbrev Old (w w' : World) : Prop := Below w.heap.size w w'
theorem Keep.of_old {S : Nat → Prop} {w w' : World} (h : Old w w') : Keep S w w' := ⟨h.os, h.tape, h.output, h.size, fun k hk _ => h.block k hk⟩
theorem Old.trans {a b c : World} (h : Old a b) (k : Old b c) : Old a c := Below.trans h (k.mono h.size)
theorem Old.drewN (w : World) (n : Nat) : Old w (w.drewN n) := ⟨rfl, rfl, rfl, Nat.le_refl _, fun _ _ => rfl⟩
theorem Old.alloc (w : World) (o : Obj) : Old w (w.alloc o) := (Below.refl _ _).alloc (Nat.le_refl _) o
/-- Blocks made since are free to be written. -/
theorem Keep.old {S : Nat → Prop} {a w : World} (h : Keep S a w) (hS : ∀ k, k < a.heap.size → ¬ S k) : Old a w := h.below (Nat.le_refl _) hS

/-- The whole of block b, nothing of it frozen. -/
def Blk (w : World) (b : Nat) (vs : Array Value) (T : TypeId) : Prop := w.heap[b]? = some (.cells vs T (0, 0))
theorem Blk.lt {w : World} {b : Nat} {vs : Array Value} {T : TypeId} (h : Blk w b vs T) : b < w.heap.size := (Array.getElem?_eq_some_iff.1 h).1
theorem Blk.cell {w : World} {b : Nat} {vs : Array Value} {T : TypeId} (h : Blk w b vs T) (i : Nat) : w.cell? ⟨b, i, none⟩ = vs[i]? := by
  unfold Blk at h; simp [World.cell?, h]
theorem Blk.cellN {w : World} {b : Nat} {vs : Array Value} {T : TypeId} (h : Blk w b vs T) (i : Nat) {v : Value} (hv : vs[i]? = some v) : w.cell? ⟨b, i, none⟩ = some v := (h.cell i).trans hv
theorem Blk.free {w : World} {b : Nat} {vs : Array Value} {T : TypeId} (h : Blk w b vs T) (i : Nat) : w.frozen? ⟨b, i, none⟩ = false := by
  unfold Blk at h; simp [World.frozen?, h]
theorem Blk.keep {S : Nat → Prop} {w w' : World} {b : Nat} {vs : Array Value} {T : TypeId} (h : Blk w b vs T) (k : Keep S w w') (hb : ¬ S b) : Blk w' b vs T := (k.block b h.lt hb).trans h
theorem Blk.old {w w' : World} {b : Nat} {vs : Array Value} {T : TypeId} (h : Blk w b vs T) (k : Old w w') : Blk w' b vs T := (k.block b h.lt).trans h
theorem Blk.drewN {w : World} {b : Nat} {vs : Array Value} {T : TypeId} (h : Blk w b vs T) (n : Nat) : Blk (w.drewN n) b vs T := h
theorem Blk.new (w : World) (vs : Array Value) (T : TypeId) : Blk (w.alloc (.cells vs T)) w.heap.size vs T := by
  unfold Blk World.alloc
  simp
theorem Blk.alloc {w : World} {b : Nat} {vs : Array Value} {T : TypeId} (h : Blk w b vs T) (o : Obj) : Blk (w.alloc o) b vs T := h.old (Old.alloc w o)
theorem Blk.set {w : World} {b : Nat} {vs : Array Value} {T : TypeId} (h : Blk w b vs T) (i : Nat) (v : Value) : Blk (w.setCell ⟨b, i, none⟩ v) b (vs.setIfInBounds i v) T := by
  unfold Blk at h ⊢
  simp [World.setCell, Array.getElem?_modify, h]
theorem Blk.setOther {w : World} {b : Nat} {vs : Array Value} {T : TypeId} (h : Blk w b vs T) {p : Addr} (hp : b ≠ p.block) (v : Value) : Blk (w.setCell p v) b vs T :=
  (Below.heap_setCell _ _ _ _ hp).trans h

/-- The slice v reads as the values xs, one cell each, out of a block below B. -/
def Sl (B : Nat) (w : World) (v : Value) (xs : List Value) : Prop :=
  ∃ p cap, v = .slice p xs.length cap ∧ (p = none → cap = 0) ∧ (xs ≠ [] → ∃ b off, p = some ⟨b, off, none⟩ ∧ b < B ∧ ∀ j, j < xs.length → w.cell? ⟨b, off + j, none⟩ = xs[j]?)
theorem Sl.below {B : Nat} {w w' : World} {v : Value} {xs : List Value} (h : Sl B w v xs) (k : Below B w w') : Sl B w' v xs := by
  obtain ⟨p, cap, hv, h0, hx⟩ := h
  refine ⟨p, cap, hv, h0, fun hne => ?_⟩
  obtain ⟨b, off, hp, hb, hc⟩ := hx hne
  exact ⟨b, off, hp, hb, fun j hj => (k.cell (p := ⟨b, off + j, none⟩) hb).trans (hc j hj)⟩
theorem Sl.mono {B B' : Nat} {w : World} {v : Value} {xs : List Value} (h : Sl B w v xs) (hB : B ≤ B') : Sl B' w v xs := by
  obtain ⟨p, cap, hv, h0, hx⟩ := h
  refine ⟨p, cap, hv, h0, fun hne => ?_⟩
  obtain ⟨b, off, hp, hb, hc⟩ := hx hne
  exact ⟨b, off, hp, by omega, hc⟩

theorem Sl.keep {S : Nat → Prop} {B : Nat} {w w' : World} {v : Value} {xs : List Value} (h : Sl B w v xs) (k : Keep S w w') (hS : ∀ g, v.ownBlock = some g → ¬ S g) : Sl B w' v xs := by
  obtain ⟨p, cap, hv, h0, hx⟩ := h
  refine ⟨p, cap, hv, h0, fun hne => ?_⟩
  obtain ⟨b, off, hp, hb, hc⟩ := hx hne
  refine ⟨b, off, hp, hb, fun j hj => ?_⟩
  have hcj := hc j hj
  have hlt : b < w.heap.size := by
    have e : xs[j]? = some xs[j] := List.getElem?_eq_getElem hj
    exact World.block_lt_of_cell? _ _ (hcj.trans e)
  have hb' := k.block b hlt (hS b (by rw [hv, hp]; rfl))
  rw [← hcj]
  exact World.cell?_of_block (w := w) hb'
/-- What the call owns, it may hand out to be read. -/
theorem Sl.of_row {B : Nat} {w : World} {e : TypeId} {v : Value} {xs : List Value} (h : w.ownsRow B e 1 v xs.length xs) : Sl w.heap.size w v xs := by
  obtain ⟨_, ⟨hv, hn⟩ | ⟨g, cap, cur, hv, hg, hb, hcap, hmax, hsz, htake⟩⟩ := h
  · exact ⟨none, 0, by rw [hv, hn], fun _ => rfl, fun hne => absurd (List.eq_nil_of_length_eq_zero hn) hne⟩
  · refine ⟨_, cap, hv, (fun h => by cases h), fun _ => ⟨g, 0, rfl, (Array.getElem?_eq_some_iff.1 hb).1, fun j hj => ?_⟩⟩
    have : xs[j]? = cur[j]? := by
      rw [← htake, Nat.mul_one, List.getElem?_take, if_pos hj]; simp
    rw [this]
    simp [World.cell?, hb]
theorem row_from {B sz : Nat} {w : World} {e : TypeId} {n : Nat} {v : Value} {xs : List Value} (h : w.ownsRow B e sz v n xs) : ∀ g, v.ownBlock = some g → B ≤ g := by
  intro g hg
  obtain ⟨_, ⟨hv, hn⟩ | ⟨g', cap, cur, hv, hB, _⟩⟩ := h
  · rw [hv] at hg; cases hg
  · rw [hv] at hg
    have : g' = g := by simpa [Value.ownBlock] using hg
    omega
theorem row_keep {S : Nat → Prop} {B sz : Nat} {w w' : World} {e : TypeId} {n : Nat} {v : Value} {xs : List Value} (h : w.ownsRow B e sz v n xs) (k : Keep S w w') (hS : ∀ g, B ≤ g → ¬ S g) : w'.ownsRow B e sz v n xs := by
  refine ⟨h.1, ?_⟩
  rcases h.2 with hn | ⟨g, cap, cur, hv, hB, hb, rest⟩
  · exact Or.inl hn
  · exact Or.inr ⟨g, cap, cur, hv, hB, (k.block g (Array.getElem?_eq_some_iff.1 hb).1 (hS g hB)).trans hb, rest⟩
/-- Behind an append to a row of the call's own. -/
theorem Keep.grown {S : Nat → Prop} {a w w' : World} {row : Option Nat} (h : Keep S a w) (hg : w.grownBy w' row) (hr : ∀ k, row = some k → a.heap.size ≤ k ∨ S k) : Keep S a w' :=
  ⟨hg.os.trans h.os, hg.tape.trans h.tape, hg.output.trans h.output, Nat.le_trans h.size hg.size, fun k hk hs => (hg.block k (Nat.lt_of_lt_of_le hk h.size) (fun e => by rcases hr k e.symm with h1 | h1; omega; exact hs h1)).trans (h.block k hk hs)⟩
theorem Blk.grown {w w' : World} {row : Option Nat} {b : Nat} {vs : Array Value} {T : TypeId} (h : Blk w b vs T) (hg : w.grownBy w' row) (hr : row ≠ some b) : Blk w' b vs T :=
  (hg.block b h.lt (fun e => hr e.symm)).trans h

theorem ba_eq {a : ByteArray} {l : List UInt8} (h : a.data.toList = l) : a = ⟨⟨l⟩⟩ := by subst h; rfl
theorem ba_inj {a b : ByteArray} (h : a.data.toList = b.data.toList) : a = b := (ba_eq h).trans rfl
theorem ba_list (l : List UInt8) : (ByteArray.mk ⟨l⟩).data.toList = l := rfl
theorem ret_int {k : IntKind} {a b : Int} (h : a = b) : Ending.returned (.int k a) = .returned (.int k b) := by rw [h]
theorem ret_int2 {a b c d : Int} (h : a = b) (h' : c = d) : Ending.returned (.tuple #[.int .i64 a, .int .i64 c]) = .returned (.tuple #[.int .i64 b, .int .i64 d]) := by rw [h, h']
theorem ret_bool {a b : Bool} (h : a = b) : Ending.returned (.bool a) = .returned (.bool b) := by rw [h]
theorem ret_str {a b : ByteArray} (h : a = b) : Ending.returned (.string a) = .returned (.string b) := by rw [h]

theorem var_old {w w' : World} {name : String} {g : Nat} {x : Array Value} (hg : Tryz.prog.globalNamed name = some g) (h : w.var? Tryz.prog name = some x) (hb : g < w.heap.size → w'.heap[g]? = w.heap[g]?) : w'.var? Tryz.prog name = some x := by
  unfold World.var? at h ⊢
  rw [hg] at h ⊢
  simp only [Option.bind_some] at h ⊢
  by_cases hl : g < w.heap.size
  · rw [hb hl]; exact h
  · rw [Array.getElem?_eq_none (by omega)] at h; cases h
end Go.Proofs.YtabcobadglgfkaaGreatDoor

/- Rows that the call owns, and what is proved once behind ways that meet. -/
namespace Go.Proofs.YtabcobadglgfkaaGreatDoor
open Go.RowKit

/-- What is proved once, behind ways that come to one end. -/
structure Kept (p : Prop) : Prop where
  out : p
theorem cut_here {G C : Prop} (h : Kept C → G) (c : C) : G := h ⟨c⟩

/-- The block b begins with these values. -/
def Row (w : World) (b : Nat) (xs : List Value) (T : TypeId) : Prop := ∃ rest : List Value, Blk w b (xs ++ rest).toArray T
theorem Row.cellN {w : World} {b : Nat} {xs : List Value} {T : TypeId} (h : Row w b xs T) (i : Nat) {v : Value} (hv : xs[i]? = some v) : w.cell? ⟨b, i, none⟩ = some v := by
  obtain ⟨rest, h⟩ := h
  refine h.cellN i ?_
  have hi := (List.getElem?_eq_some_iff.1 hv).1
  rw [List.getElem?_toArray, List.getElem?_append_left hi, hv]
theorem Row.free {w : World} {b : Nat} {xs : List Value} {T : TypeId} (h : Row w b xs T) (i : Nat) : w.frozen? ⟨b, i, none⟩ = false := by
  obtain ⟨rest, h⟩ := h
  exact h.free i
theorem Row.keep {S : Nat → Prop} {w w' : World} {b : Nat} {xs : List Value} {T : TypeId} (h : Row w b xs T) (k : Keep S w w') (hb : ¬ S b) : Row w' b xs T := by
  obtain ⟨rest, h⟩ := h
  exact ⟨rest, h.keep k hb⟩
theorem Row.old {w w' : World} {b : Nat} {xs : List Value} {T : TypeId} (h : Row w b xs T) (k : Old w w') : Row w' b xs T := by
  obtain ⟨rest, h⟩ := h
  exact ⟨rest, h.old k⟩
theorem Row.drewN {w : World} {b : Nat} {xs : List Value} {T : TypeId} (h : Row w b xs T) (n : Nat) : Row (w.drewN n) b xs T := h
theorem Row.lt {w : World} {b : Nat} {xs : List Value} {T : TypeId} (h : Row w b xs T) : b < w.heap.size := by
  obtain ⟨rest, h⟩ := h
  exact h.lt
theorem Row.set {w : World} {b : Nat} {xs : List Value} {T : TypeId} (h : Row w b xs T) {i : Nat} (hi : i < xs.length) (v : Value) : Row (w.setCell ⟨b, i, none⟩ v) b (xs.set i v) T := by
  obtain ⟨rest, h⟩ := h
  refine ⟨rest, ?_⟩
  have := h.set i v
  rwa [List.setIfInBounds_toArray, List.set_append_left _ _ hi] at this
theorem Row.of_blk {w : World} {b : Nat} {xs : List Value} {T : TypeId} (h : Blk w b xs.toArray T) : Row w b xs T := ⟨[], by rwa [List.append_nil]⟩


theorem Sl.len {B : Nat} {w : World} {v : Value} {xs : List Value} (h : Sl B w v xs) : ∃ p cap, v = .slice p xs.length cap := by
  obtain ⟨p, cap, hv, _⟩ := h
  exact ⟨p, cap, hv⟩
theorem Sl.at {B : Nat} {w : World} {p : Option Addr} {n cap : Nat} {xs : List Value} (h : Sl B w (.slice p n cap) xs) (hne : xs ≠ []) :
    ∃ b off, p = some ⟨b, off, none⟩ ∧ b < B ∧ ∀ j, j < xs.length → w.cell? ⟨b, off + j, none⟩ = xs[j]? := by
  obtain ⟨p', cap', hv, _, hx⟩ := h
  injection hv with h1 h2 h3
  subst h1
  exact hx hne
theorem Sl.len' {B : Nat} {w : World} {p : Option Addr} {n cap : Nat} {xs : List Value} (h : Sl B w (.slice p n cap) xs) : xs.length = n := by
  obtain ⟨p', cap', hv, _, hx⟩ := h
  injection hv with h1 h2 h3
  exact h2.symm

end Go.Proofs.YtabcobadglgfkaaGreatDoor

/- Bytes that the call owns, as texts. -/
namespace Go.Proofs.YtabcobadglgfkaaGreatDoor
open Go.RowKit

/-- One byte, as a text. -/
theorem conv_one (c : UInt8) (n : Int) (hn : (c.toNat : Int) = n) (w : World) (b : Nat) (h : w.cell? ⟨b, 0, none⟩ = some (.int .u8 n)) :
    (convert 55 9 (.slice (some ⟨b, 0, none⟩) 1 1)).run Tryz.prog w = .ok (.string ⟨⟨[c]⟩⟩) w := by
  refine run_convert_bytes_back (P := Tryz.prog) _ _ _ 5 ⟨b, 0, none⟩ 1 [c] Tryz.underlying55 Tryz.underlying5 Tryz.underlying9 ?_
  intro j hj
  match j, hj with
  | 0, _ => simp [Addr.add, hn, h]

theorem infoByte : (Tryz.prog.info? 5).map (fun i => (i.zero, i.size, i.bytes)) = some (some (.int .u8 0), 1, 1) := by kernel_rfl

/-- Bytes that the call owns, as a text. -/
theorem conv_row (w : World) (B : Nat) (v : Value) (l : List UInt8) (h : w.ownsRow B 5 1 v l.length (Lib.byteCells l)) :
    (convert 55 9 v).run Tryz.prog w = .ok (.string ⟨⟨l⟩⟩) w := by
  obtain ⟨_, ⟨hv, hn⟩ | ⟨g, cap, cur, hv, _, hb, hcap, hmax, hsz, htake⟩⟩ := h
  · obtain rfl : l = [] := List.eq_nil_of_length_eq_zero hn
    rw [hv]
    exact Lib.run_convert_nil_bytes (P := Tryz.prog) w _ _ 5 0 Tryz.underlying55 Tryz.underlying5 Tryz.underlying9
  · rw [hv]
    refine run_convert_bytes_back (P := Tryz.prog) w _ _ 5 ⟨g, 0, none⟩ cap l Tryz.underlying55 Tryz.underlying5 Tryz.underlying9 ?_
    intro j hj
    have : (Lib.byteCells l)[j]? = cur[j]? := by rw [← htake, Nat.mul_one, List.getElem?_take, if_pos hj]; simp
    have hx : w.cell? (Addr.add ⟨g, 0, none⟩ j) = cur[j]? := by
      unfold Addr.add
      split
      · rename_i h0; subst h0; simp [World.cell?, hb]
      · simp [World.cell?, hb]
    rw [hx, ← this]
    simp [Lib.byteCells, hj]

end Go.Proofs.YtabcobadglgfkaaGreatDoor

/- A strings.Builder that the call itself has made: what is written, and what it holds. -/
namespace Go.Proofs.YtabcobadglgfkaaGreatDoor
open Go.RowKit

theorem Bl.infoByte : (Tryz.prog.info? 5).map (fun i => (i.zero, i.size, i.bytes)) = some (some (.int .u8 0), 1, 1) := by kernel_rfl
theorem Bl.sizeBuilder : (Tryz.prog.info? 107).map (·.size) = some 2 := by kernel_rfl
theorem Bl.liesBuilder : liesAt Tryz.prog Tryz.prog.depth 107 (2 / Tryz.prog.cellsOf 107) 0 107 1 = true := by kernel_rfl

/-- The builder in block b holds the bytes l; its own blocks are from B on. -/
abbrev Bld (w : World) (B b : Nat) (l : List UInt8) : Prop := Lib.IsBuilderF 107 5 B b (Lib.byteCells l) w

theorem Bld.fresh (w : World) (B : Nat) (hB : B ≤ w.heap.size) : Bld (w.alloc (.cells #[.pointer none, .slice none 0 0] 107)) B w.heap.size [] :=
  Or.inl ⟨hB, .slice none 0 0, Blk.new w _ _, ⟨rfl, Or.inl ⟨rfl, rfl⟩⟩, by simp [Value.ownBlock]⟩

theorem BldAt.old {w w' : World} {B b : Nat} {p : Value} {bs : List Value} (h : Lib.BuilderAtF 107 5 B b p bs w) (k : Old w w') : Lib.BuilderAtF 107 5 B b p bs w' := by
  obtain ⟨hB, v, hb, hown, hne⟩ := h
  have lt : ∀ {i : Nat} {o : Obj}, w.heap[i]? = some o → w'.heap[i]? = some o := fun {i o} hi => (k.block i (Array.getElem?_eq_some_iff.1 hi).1).trans hi
  refine ⟨hB, v, lt hb, ⟨hown.1, ?_⟩, hne⟩
  rcases hown.2 with hn | ⟨g, cap, cur, fz, hv, hg, hc, rest⟩
  · exact Or.inl hn
  · exact Or.inr ⟨g, cap, cur, fz, hv, hg, lt hc, rest⟩
theorem Bld.old {w w' : World} {B b : Nat} {l : List UInt8} (h : Bld w B b l) (k : Old w w') : Bld w' B b l :=
  h.elim (fun x => Or.inl (BldAt.old x k)) (fun x => Or.inr (BldAt.old x k))

set_option maxRecDepth 100000 in
theorem copyCheck_fresh (b : Nat) (w : World) (h0 : w.cell? ⟨b, 0, none⟩ = some (.pointer none)) (hsh : w.shape? b = some (107, 2)) (hfz : w.frozen? ⟨b, 0, none⟩ = false) :
    Calls Tryz.prog 111 #[.pointer (some ⟨b, 0, none⟩)] w fun e w' => e = .returned (.tuple #[]) ∧ w' = w.setCell ⟨b, 0, none⟩ (.pointer (some ⟨b, 0, none⟩)) := by
  obtain ⟨j, hj, hjs⟩ := Option.map_eq_some_iff.1 Bl.sizeBuilder
  go_enter Tryz.func111, Tryz.ntmps111
  go_wp2
  rw [Lib.run_to_unsafe w ⟨b, 0, none⟩ Tryz.underlying105 Tryz.underlying169 hj (by rw [hjs]; decide) hsh (Nat.zero_lt_succ 1)]
  simp only [Result.andThen]
  rw [Oper.upon_value]
  go_wp2
  rw [run_callFunc_extern Tryz.func146 (by kernel_rfl) (by kernel_rfl) (by kernel_rfl) (e := Extern.AbiNoEscape.same) (by kernel_rfl)]
  rw [Lib.run_noEscape]
  simp only [Result.andThen]
  rw [Oper.upon_value]
  go_wp2
  rw [Lib.run_from_unsafe w ⟨b, 0, none⟩ Tryz.underlying169 Tryz.underlying105 hj hsh Bl.liesBuilder]
  simp only [Result.andThen]
  rw [Oper.upon_value]
  go_wp2
  go_end0
  exact ⟨rfl, rfl⟩

set_option maxRecDepth 100000 in
theorem copyCheck_used (b : Nat) (w : World) (h0 : w.cell? ⟨b, 0, none⟩ = some (.pointer (some ⟨b, 0, none⟩))) :
    Calls Tryz.prog 111 #[.pointer (some ⟨b, 0, none⟩)] w fun e w' => e = .returned (.tuple #[]) ∧ w' = w := by
  obtain ⟨j, hj, _⟩ := Option.map_eq_some_iff.1 Bl.sizeBuilder
  go_enter Tryz.func111, Tryz.ntmps111
  go_wp2
  rw [Lib.run_neq_ptr_same w _ Tryz.underlying105 hj]
  go_wp2
  go_end0
  exact ⟨rfl, rfl⟩

theorem copyCheck_any (B b : Nat) (bs : List Value) (w : World) (h : Lib.IsBuilderF 107 5 B b bs w) :
    Calls Tryz.prog 111 #[.pointer (some ⟨b, 0, none⟩)] w fun e w' => e = .returned (.tuple #[]) ∧ (Lib.BuilderAtF 107 5 B b (.pointer (some ⟨b, 0, none⟩)) bs w' ∧ Below B w w' ∧ Lib.OthersKept 5 (some b) w w') := by
  rcases h with h | h
  · refine (copyCheck_fresh b w h.cell0 h.shape h.frozen0).mono ?_
    rintro e w' ⟨rfl, rfl⟩
    exact ⟨rfl, h.used _, (Below.refl B w).setCell (p := ⟨b, 0, none⟩) h.1 _, (Lib.OthersKept.refl _ _ w).setCell ⟨b, 0, none⟩ rfl _⟩
  · refine (copyCheck_used b w h.cell0).mono ?_
    rintro e w' ⟨rfl, rfl⟩
    exact ⟨rfl, h, Below.refl B _, Lib.OthersKept.refl _ _ _⟩

set_option maxHeartbeats 2000000 in
set_option maxRecDepth 100000 in
theorem writeString_any (B b : Nat) (l : List UInt8) (s : ByteArray) (w : World) (h : Bld w B b l) (hlen : l.length + s.size ≤ 140737488355328) (hBw : B ≤ w.heap.size) :
    Calls Tryz.prog 80 #[.pointer (some ⟨b, 0, none⟩), .string s] w fun e w' => e = .returned (.tuple #[.int .i64 s.size, .nilIface]) ∧ Bld w' B b (l ++ s.data.toList) ∧ Below B w w' ∧ Lib.OthersKept 5 (some b) w w' := by
  obtain ⟨i0, hi, hz0, hz1, hz2⟩ := info_parts Bl.infoByte
  have hlen' : (Lib.byteCells l).length + s.size ≤ 140737488355328 := by simpa [Lib.byteCells] using hlen
  have hcells : Lib.byteCells (l ++ s.data.toList) = Lib.byteCells l ++ Lib.strCells s := by simp [Lib.byteCells, Lib.strCells]
  have HCELLS := Lib.hid hcells
  clear hcells hlen
  unfold Bld at h
  generalize Lib.byteCells l = bs at *
  go_enter Tryz.func80, Tryz.ntmps80
  go_wp2_with fail
  refine (copyCheck_any B b bs _ h).mono ?_
  rintro e w1 ⟨rfl, h1, hb1, hk1⟩
  obtain ⟨hB, v, hbk, hown, hne⟩ := h1
  have c0 : w1.cell? ⟨b, 0, none⟩ = some (.pointer (some ⟨b, 0, none⟩)) := by rw [Lib.cell_of_heap hbk]; rfl
  have c1 : w1.cell? ⟨b, 1, none⟩ = some v := by rw [Lib.cell_of_heap hbk]; rfl
  go_wp2_with (at_builtin; refine Lib.wpList_append_own_stringF _ rfl _ _ 55 9 rfl B 5 i0 Tryz.underlying55 Tryz.underlying9 hi hz0 hz1 hz2 _ _ _ rfl hown s rfl ?c3 ?c4 ?c5 ?_)
  case c3 => unfold maxLen; omega
  case c4 => omega
  case c5 => have := hb1.size; omega
  intro v' w2 hown' hgrow _
  have hlt : b < w1.heap.size := by
    rcases Nat.lt_or_ge b w1.heap.size with h' | h'
    · exact h'
    · simp [Array.getElem?_eq_none h'] at hbk
  have hb2 : w2.heap[b]? = some (.cells #[.pointer (some ⟨b, 0, none⟩), v] 107 (0, 0)) := by
    rw [hgrow.block b hlt (fun e => hne e.symm)]
    exact hbk
  have d0 : w2.cell? ⟨b, 0, none⟩ = some (.pointer (some ⟨b, 0, none⟩)) := by rw [Lib.cell_of_heap hb2]; rfl
  have d1 : w2.cell? ⟨b, 1, none⟩ = some v := by rw [Lib.cell_of_heap hb2]; rfl
  have f1 : w2.frozen? ⟨b, 1, none⟩ = false := Lib.frozen_of_heap hb2 1
  obtain ⟨ao, n', cap, rfl⟩ : ∃ ao n' cap, v' = .slice ao n' cap := by
    rcases hown'.2 with ⟨hv, _⟩ | ⟨g, cap, cur, fz, hv, _⟩
    · exact ⟨_, _, _, hv⟩
    · exact ⟨_, _, _, hv⟩
  go_wp2
  go_ret2
  refine ⟨rfl, ?_, ?_, (hk1.grown hgrow (Lib.ownsRowF_kind hown)).setCell ⟨b, 1, none⟩ rfl _⟩
  · unfold Bld
    rw [HCELLS.out]
    exact Or.inr (Lib.BuilderAtF.put (T := 107) (e := 5) hB hb2 (bs' := bs ++ Lib.strCells s) (by simpa [Lib.strCells_length] using hown') (by decide))
  · exact (hb1.grown hgrow (by have := hb1.size; omega) (fun k hk => (hown.lt k hk).1)).setCell (p := ⟨b, 1, none⟩) hB _

theorem bstring_any (B b : Nat) (l : List UInt8) (w : World) (h : Bld w B b l) (hBw : B ≤ w.heap.size) :
    Calls Tryz.prog 82 #[.pointer (some ⟨b, 0, none⟩)] w fun e w' => e = .returned (.string ⟨⟨l⟩⟩) ∧ Bld w' B b l ∧ Below B w w' ∧ Lib.OthersKept 5 (some b) w w' :=
  Tryz.Builder_String_any_k B b l w h hBw
end Go.Proofs.YtabcobadglgfkaaGreatDoor

/- Plain facts on the digits of numbers: they are read back, their size, their first one. Nothing of the program stands here. -/
namespace Go.Proofs.YtabcobadglgfkaaGreatDoor.M
open Go.Lib

theorem ofNat_toNat {d : Nat} (h : d < 10) : (UInt8.ofNat (48 + d)).toNat = 48 + d := by simp; omega
theorem dec_ind {p : Nat → Prop} (h0 : ∀ u, u < 10 → p u) (h1 : ∀ u, ¬ u < 10 → p (u / 10) → p u) (u : Nat) : p u := by
  induction u using Nat.strongRecOn with
  | _ u ih =>
    by_cases h : u < 10
    · exact h0 u h
    · exact h1 u h (ih (u / 10) (by omega))
theorem dec_small {u : Nat} (h : u < 10) : decDigits u = [UInt8.ofNat (48 + u)] := by rw [decDigits, dif_pos h]
theorem dec_big {u : Nat} (h : ¬ u < 10) : decDigits u = decDigits (u / 10) ++ [UInt8.ofNat (48 + u % 10)] := by rw [decDigits, dif_neg h]
theorem dec_dig (u : Nat) : ∀ c ∈ decDigits u, 48 ≤ c.toNat ∧ c.toNat ≤ 57 := by
  refine dec_ind (p := fun u => ∀ c ∈ decDigits u, 48 ≤ c.toNat ∧ c.toNat ≤ 57) ?_ ?_ u
  · intro u h c hc
    rw [dec_small h] at hc
    obtain rfl := List.mem_singleton.1 hc
    rw [ofNat_toNat h]; omega
  · intro u h ih c hc
    rw [dec_big h, List.mem_append] at hc
    rcases hc with hc | hc
    · exact ih c hc
    · obtain rfl := List.mem_singleton.1 hc
      rw [ofNat_toNat (by omega)]; omega
theorem dec_ne (u : Nat) : decDigits u ≠ [] := by
  by_cases h : u < 10
  · rw [dec_small h]; simp
  · rw [dec_big h]; simp
theorem dec_len (u : Nat) : ∀ k, u < 10 ^ k → 1 ≤ k → (decDigits u).length ≤ k := by
  refine dec_ind (p := fun u => ∀ k, u < 10 ^ k → 1 ≤ k → (decDigits u).length ≤ k) ?_ ?_ u
  · intro u h k _ h1
    rw [dec_small h]; simpa using h1
  · intro u h ih k hk h1
    rw [dec_big h]
    obtain ⟨j, rfl⟩ : ∃ j, k = j + 1 := ⟨k - 1, by omega⟩
    have hj : 1 ≤ j := by
      rcases j with _ | j
      · simp at hk; omega
      · omega
    have := ih j (by rw [Nat.pow_succ] at hk; omega) hj
    simp; omega
theorem dec_head (u : Nat) (h : 0 < u) : ∃ c r, decDigits u = c :: r ∧ 49 ≤ c.toNat := by
  refine dec_ind (p := fun u => 0 < u → ∃ c r, decDigits u = c :: r ∧ 49 ≤ c.toNat) ?_ ?_ u h
  · intro u h h0
    exact ⟨_, [], dec_small h, by rw [ofNat_toNat h]; omega⟩
  · intro u h ih _
    obtain ⟨c, r, hc, h49⟩ := ih (by omega)
    exact ⟨c, r ++ [UInt8.ofNat (48 + u % 10)], by rw [dec_big h, hc]; rfl, h49⟩
theorem pu_append (l r : List UInt8) : ∀ acc, parseUint10 acc (l ++ r) = match parseUint10 acc l with | .ok a => parseUint10 a r | x => x := by
  induction l with
  | nil => intro acc; simp [parseUint10]
  | cons c l ih =>
    intro acc
    simp only [List.cons_append, parseUint10]
    split
    · split
      · rfl
      · split
        · rfl
        · exact ih _
    · rfl
theorem pu_dec (u : Nat) (hu : u < 18446744073709551616) : parseUint10 0 (decDigits u) = .ok u := by
  refine dec_ind (p := fun u => u < 18446744073709551616 → parseUint10 0 (decDigits u) = .ok u) ?_ ?_ u hu
  · intro u h _
    rw [dec_small h, parseUint10, ofNat_toNat h, if_pos (by omega), if_neg (by omega), if_neg (by omega), parseUint10]
    congr 1; omega
  · intro u h ih hu
    rw [dec_big h, pu_append, ih (by omega)]
    simp only [parseUint10]
    rw [ofNat_toNat (by omega), if_pos (by omega), if_neg (by omega), if_neg (by omega)]
    congr 1; omega
theorem mag_dec (u : Nat) (hu : u < 18446744073709551616) : parseMag (decDigits u) = .ok u := by
  rw [parseMag, if_neg (dec_ne u), pu_dec u hu]
theorem atoi_itoa (n : Int) (h0 : -9223372036854775808 ≤ n) (h1 : n ≤ 9223372036854775807) : atoiAll (itoa n) = .ok n := by
  unfold itoa
  by_cases h : n < 0
  · rw [if_pos h, atoiAll_minus, mag_dec _ (by omega)]
    unfold signed
    simp only
    rw [if_neg (by omega)]
    congr 1; omega
  · rw [if_neg h]
    obtain ⟨c, r, hc⟩ : ∃ c r, decDigits n.toNat = c :: r := by
      cases hd : decDigits n.toNat with
      | nil => exact absurd hd (dec_ne _)
      | cons c r => exact ⟨c, r, rfl⟩
    have hcd := dec_dig n.toNat c (by rw [hc]; simp)
    rw [hc, atoiAll_plain c r (by omega) (by omega), ← hc, mag_dec _ (by omega)]
    unfold signless
    simp only
    rw [if_neg (by omega)]
    congr 1; omega
/-- The number whose digits these are. -/
def parse (l : List UInt8) : Option Int := match atoiAll l with | .ok v => if itoa v = l then some v else none | _ => none
theorem parse_itoa (n : Int) (h0 : -9223372036854775808 ≤ n) (h1 : n ≤ 9223372036854775807) : parse (itoa n) = some n := by
  simp [parse, atoi_itoa n h0 h1]
theorem parse_some {l : List UInt8} {v : Int} (h : parse l = some v) : itoa v = l ∧ -9223372036854775808 ≤ v ∧ v ≤ 9223372036854775807 ∧ atoiAll l = .ok v := by
  unfold parse at h
  split at h
  · rename_i x hx
    split at h
    · rename_i hi
      obtain rfl := Option.some.inj h
      exact ⟨hi, (atoiAll_bounds hx).1, (atoiAll_bounds hx).2, hx⟩
    · cases h
  · cases h
theorem parse_none {l : List UInt8} (h : parse l = none) (n : Int) (h0 : -9223372036854775808 ≤ n) (h1 : n ≤ 9223372036854775807) : itoa n ≠ l := by
  intro e
  rw [← e, parse_itoa n h0 h1] at h
  cases h
theorem itoa_ne (n : Int) : itoa n ≠ [] := by
  unfold itoa
  split
  · simp
  · exact dec_ne _
theorem itoa_len20 (n : Int) (h0 : -9223372036854775808 ≤ n) (h1 : n ≤ 9223372036854775807) : (itoa n).length ≤ 20 := by
  unfold itoa
  split
  · have := dec_len n.natAbs 19 (by omega) (by omega)
    simp; omega
  · have := dec_len n.toNat 19 (by omega) (by omega)
    omega
theorem itoa_sign (n : Int) : (itoa n).head? = some 45 ↔ n < 0 := by
  unfold itoa
  split
  · simp; assumption
  · rename_i h
    cases hd : decDigits n.toNat with
    | nil => exact absurd hd (dec_ne _)
    | cons c r =>
      have := dec_dig n.toNat c (by rw [hd]; simp)
      simp only [List.head?_cons, Option.some.injEq]
      constructor
      · rintro rfl; exact absurd this.1 (by decide)
      · intro h'; exact absurd h' h
end Go.Proofs.YtabcobadglgfkaaGreatDoor.M

/- The table that strconv reads: it stays where old blocks stay; strconv.Itoa, and strconv.Atoi, as this program has them. -/
namespace Go.Proofs.YtabcobadglgfkaaGreatDoor
open Go.RowKit

/-- The table that strconv reads. -/
abbrev Tab (w : World) : Prop := Lib.TabIs Tryz.prog w "internal/strconv.uint64pow10" .u64 Lib.pow10Tab
theorem tab_num : Tryz.prog.globalNamed "internal/strconv.uint64pow10" = some 5 := by kernel_rfl
theorem Tab.keep {S : Nat → Prop} {w w' : World} (h : Tab w) (k : Keep S w w') (hS : ¬ S 5) : Tab w' := var_old tab_num h (fun hl => k.block _ hl hS)
theorem Tab.old {w w' : World} (h : Tab w) (k : Old w w') : Tab w' := var_old tab_num h (fun hl => k.block _ hl)
end Go.Proofs.YtabcobadglgfkaaGreatDoor

/- The two errors that strconv.Atoi names: they stay where old blocks stay; strconv.Atoi at every text. -/
namespace Go.Proofs.YtabcobadglgfkaaGreatDoor
open Go.RowKit

/-- The variables ErrSyntax and ErrRange hold errors. -/
def Errs (w : World) : Prop := (∃ tp p, w.var? Tryz.prog "strconv.ErrSyntax" = some #[.iface tp p]) ∧ (∃ tp p, w.var? Tryz.prog "strconv.ErrRange" = some #[.iface tp p])
theorem var_lt {w : World} {name : String} {g : Nat} {x : Array Value} (hg : Tryz.prog.globalNamed name = some g) (h : w.var? Tryz.prog name = some x) : g < w.heap.size := by
  unfold World.var? at h
  rw [hg] at h
  simp only [Option.bind_some] at h
  rcases Nat.lt_or_ge g w.heap.size with hl | hl
  · exact hl
  · rw [Array.getElem?_eq_none hl] at h; cases h

end Go.Proofs.YtabcobadglgfkaaGreatDoor

/- How a law's walk becomes the law's statement: what was there before the call reads as it did. -/
namespace Go.Proofs.YtabcobadglgfkaaGreatDoor
open Go.ChangeShapes Go.WideShapes Go.ChangeAt Go.RowKit

theorem own : ownKnob Tryz.prog.godebug = none := by kernel_rfl
theorem laidOut : laidOutB Tryz.prog = true := by kernel_rfl

section
variable {H : Type} {enc : TypeId × Value → H}
theorem trodAll_old {P : Program} (hl : laidOutB P = true) {W W' : World} (hb : Old W W') : ∀ (ts : List TypeId) {vs : List Value} {ds : List (DataW H)} {ps : List MemPlace}, (∀ t ∈ ts, P.readableRec t = true ∧ t < P.types.size) →
    DataW.TrodAll enc P W 0 (fun _ => true) true ts vs ds ps → (∀ x ∈ ps, x.block < W.heap.size) → DataW.TrodAll enc P W' 0 (fun b => decide (b < W.heap.size)) true ts vs ds ps
  | [], [], [], ps, _, h, _ => h
  | [], [], _ :: _, ps, _, h, _ => h.elim
  | [], _ :: _, _, ps, _, h, _ => h.elim
  | _ :: _, [], _, ps, _, h, _ => h.elim
  | _ :: _, _ :: _, [], ps, _, h, _ => h.elim
  | t :: ts, v :: vs, d :: ds, ps, hts, h, hlt => by
      obtain ⟨p, q, h1, h2, rfl⟩ := h
      have ht := hts t (by simp)
      exact ⟨p, q, Below.trod hl ht.1 ht.2 h1 hb (fun x hx => hlt x (by simp [hx])), trodAll_old hl hb ts (fun u hu => hts u (by simp [hu])) h2 (fun x hx => hlt x (by simp [hx])), rfl⟩

/-- WHAT A LAW's WALK GIVES ITS ROW: it returned true, and of what was there nothing has turned. -/
theorem law_post {f : Func} {s : ChangeSpec} {W W' : World} {args : Array Value} {ds gs : List (DataW H)} {before : List MemPlace}
    (hW : DataW.Whole enc Tryz.prog f.params.toList s.vars false W args.toList ds gs before) (hvars : s.vars = []) (hts : ∀ t ∈ f.params.toList, Tryz.prog.readableRec t = true ∧ t < Tryz.prog.types.size)
    (hres : f.resultTypes = #[4]) (hfn : s.fn H (ds ++ gs) = { results := [.lit (.bool true)], args := ds }) (hb : Old W W') :
    s.post enc Tryz.prog f false true false false W args (.bool true) W' := by
  have hWl := hW.lt
  have hW' := hW
  obtain ⟨p, q, hA, hV, hbef, hfz, hnd⟩ := hW'
  rw [hvars] at hV
  have hlt : ∀ x ∈ p, x.block < W.heap.size := fun x hx => hWl x (by rw [hbef]; simp [hx])
  refine ⟨ds, gs, before, [], p, q, hW, ?_, ?_, ?_, hb.frame _, fun h => by cases h⟩
  · rw [hfn, hres]
    exact trodAll_mk1 (shut_bool Tryz.underlying4 true)
  · rw [hfn]
    exact trodAll_old laidOut hb _ hts hA hlt
  · rw [hfn, hvars]
    cases gs with
    | nil => exact hV
    | cons g r => exact absurd hV (by intro h; cases h)
end

section
variable {H : Type} {enc : TypeId × Value → H}
theorem bound_int {n : Int} (h : (Lit.int .i64 n).wf = true) : -9223372036854775808 ≤ n ∧ n ≤ 9223372036854775807 := by
  simpa [Lit.wf, IntKind.min, IntKind.max, IntKind.signed, IntKind.bits] using h
theorem bound_u8 {n : Int} (h : (Lit.int .u8 n).wf = true) : 0 ≤ n ∧ n ≤ 255 := by
  simpa [Lit.wf, IntKind.min, IntKind.max, IntKind.signed, IntKind.bits] using h
theorem sl_of_cells {W : World} {a : Addr} {len cap : Nat} {xs : List Value} (hl : xs.length = len) (h : ∀ i, i < len → W.cell? (a.add i) = xs[i]?) : Sl W.heap.size W (.slice (some a) len cap) xs := by
  subst hl
  refine ⟨some a, cap, rfl, (fun h => by cases h), fun hne => ?_⟩
  have hpos : 0 < xs.length := List.length_pos_iff.2 hne
  have h0 := h 0 hpos
  have hx0 : xs[0]? = some xs[0] := List.getElem?_eq_getElem hpos
  rw [hx0] at h0
  have ha : a.add 0 = a := by simp [Addr.add]
  rw [ha] at h0
  have hsp : a.spot = none := by
    cases hs : a.spot with
    | none => rfl
    | some x =>
      unfold World.cell? at h0
      split at h0
      · rw [if_pos (by rw [hs]; rfl)] at h0; cases h0
      · cases h0
  obtain ⟨b, off, sp⟩ := a
  simp only at hsp
  subst hsp
  refine ⟨b, off, rfl, World.block_lt_of_cell? _ _ h0, fun j hj => ?_⟩
  rw [← h j hj]
  congr 1
  unfold Addr.add
  split
  · rename_i hj0; subst hj0; rfl
  · rfl
end
end Go.Proofs.YtabcobadglgfkaaGreatDoor

/- A listed variable, by its name. -/
namespace Go.Proofs.YtabcobadglgfkaaGreatDoor
open Go.RowKit

theorem laid_mem {P : Program} {W : World} {n : String} {d : DataW Unit} : ∀ {l : List (String × DataW Unit)} {ps : List MemPlace}, DataW.LaidVars P W l ps → (n, d) ∈ l →
    ∃ g t cs fuel p, P.globalNamed n = some g ∧ (P.globals[g]?).map (·.type) = some t ∧ W.var? P n = some cs ∧ DataW.trod (fun _ => ()) P W 0 (fun _ => true) false fuel t cs.toList = some (d, p)
  | [], _, _, hm => by cases hm
  | (n', d') :: r, ps, h, hm => by
      obtain ⟨g, t, cs, fuel, p, q, h1, h2, h3, h4, h5, _⟩ := h
      rcases List.mem_cons.1 hm with e | hm
      · injection e with e1 e2; subst e1; subst e2; exact ⟨g, t, cs, fuel, p, h1, h2, h3, h4⟩
      · exact laid_mem h5 hm
end Go.Proofs.YtabcobadglgfkaaGreatDoor

/- From the listed variables to what the walks ask of them. -/
namespace Go.Proofs.YtabcobadglgfkaaGreatDoor
open Go.RowKit

theorem tab_type : (Tryz.prog.globals[5]?).map (·.type) = some 205 := by kernel_rfl
theorem tab_data : Rows.laid_internal_strconv_uint64pow10 (H := Unit) = Lib.tabData .u64 Lib.pow10Tab := by
  unfold Rows.laid_internal_strconv_uint64pow10 Lib.tabData Lib.pow10Tab
  simp [List.range_succ]
theorem tab_of {l : List (String × DataW Unit)} {W : World} (h : laidMet Tryz.prog l W) (hm : ("internal/strconv.uint64pow10", Rows.laid_internal_strconv_uint64pow10) ∈ l) : Tab W := by
  obtain ⟨ps, hl, _⟩ := h
  obtain ⟨g, t, cs, fuel, p, hg, ht, hv, hd⟩ := laid_mem hl hm
  obtain rfl := Option.some.inj (tab_num.symm.trans hg)
  obtain rfl := Option.some.inj (tab_type.symm.trans ht)
  rw [tab_data] at hd
  show W.var? _ _ = _
  rw [hv, ← Lib.cells_of_tab Tryz.underlying205 Tryz.underlying86 (by kernel_rfl) (by kernel_rfl) hd]

theorem iface_of {P : Program} {W : World} {fuel : Nat} {t : TypeId} {ms : Array (String × TypeId)} {cs : List Value} {nm : String} {d : DataW Unit} {p : List MemPlace} (ht : P.underlying t = some (.interface ms))
    (h : DataW.trod (fun _ => ()) P W 0 (fun _ => true) false fuel t cs = some (.iface nm d, p)) : ∃ u v, cs = [.iface u v] := by
  cases fuel with
  | zero => simp [DataW.trod] at h
  | succ fuel =>
    unfold DataW.trod at h
    rw [ht] at h
    split at h <;> simp_all
theorem errv_of {l : List (String × DataW Unit)} {W : World} {n : String} {g : Nat} {nm : String} {d : DataW Unit} (h : laidMet Tryz.prog l W) (hg : Tryz.prog.globalNamed n = some g) (ht : (Tryz.prog.globals[g]?).map (·.type) = some 109) (hm : (n, DataW.iface nm d) ∈ l) :
    ∃ tp p, W.var? Tryz.prog n = some #[.iface tp p] := by
  obtain ⟨ps, hl, _⟩ := h
  obtain ⟨g', t, cs, fuel, p, hg', ht', hv, hd⟩ := laid_mem hl hm
  obtain rfl := Option.some.inj (hg.symm.trans hg')
  obtain rfl := Option.some.inj (ht.symm.trans ht')
  obtain ⟨u, v, hc⟩ := iface_of Tryz.underlying109 hd
  obtain ⟨c⟩ := cs
  simp only at hc
  subst hc
  exact ⟨u, v, hv⟩
end Go.Proofs.YtabcobadglgfkaaGreatDoor
