/- What the laws on files lean on beside the walks: lengths, a list held against itself, a list of one's own. -/
import Derived.Test.YtcmbmbdjdkldoaaDoorPathsZ
namespace Go.Proofs.YtcmbmbdjdkldoaaDoor
open Go.RowKit

theorem same_self (v u : Value) (fs : List M.Fi) (w : World) (h : Fl w v fs) (h2 : Fl w u fs) (hl : fs.length ≤ 1099511627776) :
    Calls Tryd.prog 27 #[v, u] w fun e w' => e = .returned (.bool true) ∧ ∃ n, w' = w.drewN n := by
  have := same_any v u fs fs w h h2 (by unfold maxLen; omega) (by unfold maxLen; omega)
  rwa [decide_eq_true rfl] at this
theorem without_len (fs : List M.Fi) (s : List UInt8) : (M.without fs s).length ≤ fs.length := List.length_filter_le _ _
theorem under_len (fs : List M.Fi) (s : List UInt8) : (M.under fs s).length ≤ fs.length := by
  unfold M.under
  rw [List.length_map]
  exact List.length_filter_le _ _
theorem into_len (fs : List M.Fi) (s : List UInt8) : (M.into fs s).1.length ≤ fs.length := by
  unfold M.into
  split
  · simp
  · split
    · simp
    · simp
theorem withF_len (fs : List M.Fi) (f : M.Fi) : (M.withF fs f).1.length ≤ 32 := by
  unfold M.withF
  split
  · simp
  · split
    · simp
    · split
      · simp
      · simp only; omega
theorem union_len : ∀ (more fs : List M.Fi), fs.length ≤ 1000 → (M.union fs more).1.length ≤ 1000
  | [], fs, h => h
  | f :: r, fs, h => by
      rw [M.union]
      split
      · simp
      · exact union_len r _ (Nat.le_trans (withF_len fs f) (by decide))
/-- An empty list that is not nil. -/
theorem Own.void (w : World) : Own w.heap.size (w.alloc (.cells #[] 36)) (.slice (some ⟨w.heap.size, 0, none⟩) 0 0) [] := by
  have := World.ownsRow_made (e := 36) (size := 2) w #[] 0 (base := w.heap.size) (Nat.le_refl _) (Nat.zero_le _) (by simp)
  have h : World.ownsRow (w.alloc (.cells #[] 36)) w.heap.size 36 2 (.slice (some ⟨w.heap.size, 0, none⟩) 0 0) 0 [] := by simpa using this
  exact h
/-- How many files stand at a path. -/
def M.at (fs : List M.Fi) (s : List UInt8) : Nat := fs.countP fun f => f.1 == s
theorem at_len (fs : List M.Fi) (s : List UInt8) : M.at fs s ≤ fs.length := List.countP_le_length
theorem at_step {fs : List M.Fi} {s : List UInt8} {k : Nat} (h : k < fs.length) : M.at (fs.take (k + 1)) s = M.at (fs.take k) s + if fs[k].1 == s then 1 else 0 := by
  unfold M.at
  rw [List.take_add_one, List.getElem?_eq_getElem h, List.countP_append]
  simp [List.countP_cons]
theorem apart_len : ∀ (fs : List M.Fi) (s : List UInt8), (M.without fs s).length + (M.under fs s).length + M.at fs s = fs.length
  | [], _ => rfl
  | f :: r, s => by
      have ih := apart_len r s
      unfold M.without M.under M.at at ih ⊢
      rw [List.length_map] at ih ⊢
      simp only [List.filter_cons, List.countP_cons, List.length_cons, Bool.not_or] at ih ⊢
      by_cases h1 : f.1 = s
      · have h2 : M.below f.1 s = false := by rw [h1]; exact M.below_self s
        rw [h2]
        simp [h1]
        omega
      · cases h2 : M.below f.1 s <;> simp [h1] <;> omega
end Go.Proofs.YtcmbmbdjdkldoaaDoor
