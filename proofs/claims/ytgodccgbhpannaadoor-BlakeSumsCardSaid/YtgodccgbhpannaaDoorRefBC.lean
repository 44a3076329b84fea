/- The document's constants and rows. -/
import Derived.Test.YtgodccgbhpannaaDoorRefBB
import Derived.Test.YtgodccgbhpannaaDoorRefBA
namespace Go.Proofs.YtgodccgbhpannaaDoor
open Go.RowKit

theorem allocs_at : ∀ (l : List Obj) (w : World) (k : Nat) (o : Obj), l[k]? = some o → (l.foldl World.alloc w).heap[w.heap.size + k]? = some o
  | [], _, _, _, h => by simp at h
  | x :: l, w, 0, o, h => by
      have hx : x = o := by simpa using h
      subst hx
      have : ∀ (l : List Obj) (v : World), Old v (l.foldl World.alloc v) := fun l => by
        induction l with
        | nil => intro v; exact Below.refl _ _
        | cons y r ih => intro v; exact Old.trans (Old.alloc v y) (ih _)
      have hb := (this l (w.alloc x)).block w.heap.size (by simp)
      exact hb.trans (heap_alloc_last w x)
  | x :: l, w, k + 1, o, h => by
      have := allocs_at l (w.alloc x) k o (by simpa using h)
      rw [show (w.alloc x).heap.size = w.heap.size + 1 from by simp] at this
      rw [show w.heap.size + (k + 1) = w.heap.size + 1 + k from by omega]
      exact this
theorem allocs_old : ∀ (l : List Obj) (w : World), Old w (l.foldl World.alloc w)
  | [], _ => Below.refl _ _
  | x :: l, w => Old.trans (Old.alloc w x) (allocs_old l _)

def ivObj : Obj := .cells (l64 M.iv).toArray 3
theorem constants_any (w : World) :
    Calls Tryd.prog 15 #[] w fun e w' => e = .returned (.slice (some ⟨w.heap.size, 0, none⟩) 8 8) ∧ Row w' w.heap.size (l64 M.iv) 3 ∧ Old w w' ∧ w'.heap.size = w.heap.size + 1 := by
  go_enter Tryd.func15, Tryd.ntmps15
  go_wp2
  go_ret
  exact ⟨rfl, Row.of_blk (Blk.new w (l64 M.iv).toArray 3), Old.alloc w _, by simp⟩

def sl16 (g : Nat) : Value := .slice (some ⟨g, 0, none⟩) 16 16
/-- The list of rows that the document lays, in block g: each in a block of its own. -/
def RowsIn (B : Nat) (w : World) (g : Nat) : Prop := ∀ k < 10, ∃ gk, B ≤ gk ∧ w.cell? ⟨g, k, none⟩ = some (sl16 gk) ∧ Row w gk (l64 (M.orders.getD k [])) 3
set_option maxHeartbeats 2000000 in
set_option maxRecDepth 100000 in
theorem rows_any (w : World) :
    Calls Tryd.prog 18 #[] w fun e w' => ∃ g, e = .returned (.slice (some ⟨g, 0, none⟩) 10 10) ∧ w.heap.size ≤ g ∧ RowsIn w.heap.size w' g ∧ Old w w' := by
  go_enter Tryd.func18, Tryd.ntmps18
  go_wp2
  go_ret
  let objs : List Obj := (M.orders.map fun r => Obj.cells (l64 r).toArray 3) ++ [Obj.cells ((List.range 10).map fun k => sl16 (w.heap.size + k)).toArray 35]
  have hE : ∀ w', w' = objs.foldl World.alloc w → ∃ g, (w.heap.size + 10 = g) ∧ w.heap.size ≤ g ∧ RowsIn w.heap.size w' g ∧ Old w w' := by
    rintro w' rfl
    refine ⟨_, rfl, by omega, ?_, allocs_old objs w⟩
    intro k hk
    refine ⟨w.heap.size + k, by omega, ?_, ?_⟩
    · have h10 := allocs_at objs w 10 (Obj.cells ((List.range 10).map fun k => sl16 (w.heap.size + k)).toArray 35) rfl
      refine (show Blk (objs.foldl World.alloc w) (w.heap.size + 10) _ _ from h10).cellN k ?_
      simp [hk]
    · have hk' : k < M.orders.length := hk
      have hr := allocs_at objs w k (Obj.cells (l64 (M.orders.getD k [])).toArray 3) (by
        rw [List.getElem?_append_left (by simpa using hk'), List.getElem?_map, List.getElem?_eq_getElem hk', List.getD_eq_getElem?_getD, List.getElem?_eq_getElem hk']
        rfl)
      exact Row.of_blk hr
  obtain ⟨g, hg, h1, h2, h3⟩ := hE _ rfl
  exact ⟨g, by rw [← hg]; rfl, h1, h2, h3⟩
end Go.Proofs.YtgodccgbhpannaaDoor
