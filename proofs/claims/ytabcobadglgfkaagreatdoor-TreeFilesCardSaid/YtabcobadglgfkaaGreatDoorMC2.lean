/- Merged of: LiftL. -/
import Derived.Test.YtabcobadglgfkaaGreatDoorMC1
/- Lists of texts and of numbers that came in. -/
namespace Go.Proofs.YtabcobadglgfkaaGreatDoor
open Go.ChangeShapes Go.WideShapes Go.ChangeAt Go.RowKit

section
variable {H : Type} {enc : TypeId × Value → H}
set_option maxRecDepth 100000 in
/-- A list of texts that came in. -/
theorem open_texts {t : TypeId} {W : World} {base : Nat} {v : Value} {d : DataW H} {p : List MemPlace} (ht : Tryz.prog.underlying t = some (.slice 9)) (hval : Value.okWide Tryz.prog W .any base t v)
    (h : DataW.Trod enc Tryz.prog W 0 (fun _ => true) true t v d p) :
    ∃ l : List (List UInt8), Sl W.heap.size W v (l.map fun s => .string ⟨⟨s⟩⟩) ∧ l.length ≤ maxLen ∧ ∀ s, s ∈ l → s.length ≤ maxLen := by
  obtain ⟨fuel, hf⟩ := h
  obtain ⟨a, len, cap, rfl⟩ := okWide_slice ht hval
  rcases open_strings ht Tryz.underlying9 (by kernel_rfl) hf with ⟨hc, _⟩ | ⟨a', len', cap', ss, hc, _, hlc, hmax, hlen, _, hcell, hsz⟩
  · have hv : (Value.slice a len cap) = .slice none 0 0 := by simpa [Value.cells] using hc
    rw [hv]
    exact ⟨[], ⟨none, 0, rfl, fun _ => rfl, fun h => absurd rfl h⟩, Nat.zero_le _, fun s hs => by cases hs⟩
  · have hv : (Value.slice a len cap) = .slice (some a') len' cap' := by simpa [Value.cells] using hc
    rw [hv]
    rw [if_pos rfl] at hlen
    refine ⟨(ss.take len').map (fun s => s.data.toList), ?_, by simp; omega, ?_⟩
    · refine sl_of_cells (by simp; omega) (fun i hi => ?_)
      rw [hcell i (by omega)]
      have hi' : i < ss.length := by omega
      simp [hi, hi', List.getD]
    · intro s hs
      obtain ⟨x, hx, rfl⟩ := List.mem_map.1 hs
      have := hsz x (List.mem_of_mem_take hx)
      simpa using this
set_option maxRecDepth 100000 in
/-- A list of ints that came in. -/
theorem open_numbers {t : TypeId} {W : World} {base : Nat} {v : Value} {d : DataW H} {p : List MemPlace} (ht : Tryz.prog.underlying t = some (.slice 3)) (hval : Value.okWide Tryz.prog W .any base t v)
    (h : DataW.Trod enc Tryz.prog W 0 (fun _ => true) true t v d p) :
    ∃ l : List Int, Sl W.heap.size W v (l.map (Value.int .i64)) ∧ l.length ≤ maxLen ∧ ∀ n, n ∈ l → -9223372036854775808 ≤ n ∧ n ≤ 9223372036854775807 := by
  obtain ⟨fuel, hf⟩ := h
  obtain ⟨a, len, cap, rfl⟩ := okWide_slice ht hval
  rcases open_ints ht Tryz.underlying3 (by kernel_rfl) hf with ⟨hc, _⟩ | ⟨a', len', cap', zs, hc, _, hlc, hmax, hlen, _, hcell, hwf⟩
  · have hv : (Value.slice a len cap) = .slice none 0 0 := by simpa [Value.cells] using hc
    rw [hv]
    exact ⟨[], ⟨none, 0, rfl, fun _ => rfl, fun h => absurd rfl h⟩, Nat.zero_le _, fun s hs => by cases hs⟩
  · have hv : (Value.slice a len cap) = .slice (some a') len' cap' := by simpa [Value.cells] using hc
    rw [hv]
    rw [if_pos rfl] at hlen
    refine ⟨zs.take len', ?_, by simp; omega, fun n hn => bound_int (hwf n (List.mem_of_mem_take hn))⟩
    refine sl_of_cells (by simp; omega) (fun i hi => ?_)
    rw [hcell i (by omega)]
    have hi' : i < zs.length := by omega
    simp [hi, hi', List.getD]
end
end Go.Proofs.YtabcobadglgfkaaGreatDoor
