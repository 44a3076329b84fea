/- The small contracts of the package pack: a new reader, what is left, the end, the failure. -/
import Derived.Test.YtflkinglgnkchaaDoorBase
import Derived.Test.YtflkinglgnkchaaDoorPackM
namespace Go.Proofs.YtflkinglgnkchaaDoor
open Go.RowKit

set_option maxHeartbeats 400000 in
theorem read_any (s : ByteArray) (w : World) :
    Calls Tryd.prog 20 #[.string s] w fun e w' => e = .returned (.pointer (some ⟨w.heap.size, 0, none⟩)) ∧ w' = w.alloc (.cells #[.string s, .int .i64 0] 55) := by
  go_enter Tryd.func20, Tryd.ntmps20
  go_wp2
  go_ret
  exact ⟨rfl, rfl⟩

set_option maxHeartbeats 400000 in
theorem left_nil (w : World) :
    Calls Tryd.prog 27 #[.pointer none] w fun e w' => e = .returned (.int .i64 0) ∧ w' = w := by
  go_enter Tryd.func27, Tryd.ntmps27
  go_wp2
  go_ret
  exact ⟨rfl, rfl⟩

set_option maxHeartbeats 400000 in
theorem left_any (b : Nat) (s : ByteArray) (w : World) (h0 : w.cell? ⟨b, 0, none⟩ = some (.string s)) :
    Calls Tryd.prog 27 #[.pointer (some ⟨b, 0, none⟩)] w fun e w' => e = .returned (.int .i64 s.size) ∧ w' = w := by
  go_enter Tryd.func27, Tryd.ntmps27
  go_wp2
  go_ret
  exact ⟨rfl, rfl⟩

/-- A reader in block b: what is left, and what was wrong. -/
def Rd (w : World) (b : Nat) (r : List UInt8 × Int) : Prop := Blk w b #[.string ⟨⟨r.1⟩⟩, .int .i64 r.2] 55

theorem Rd.old {w w' : World} {b : Nat} {r : List UInt8 × Int} (h : Rd w b r) (k : Old w w') : Rd w' b r := Blk.old h k
theorem Rd.keep {S : Nat → Prop} {w w' : World} {b : Nat} {r : List UInt8 × Int} (h : Rd w b r) (k : Keep S w w') (hb : ¬ S b) : Rd w' b r := Blk.keep h k hb
set_option maxHeartbeats 400000 in
theorem fail_any (b : Nat) (s : ByteArray) (e x : Int) (w : World) (h : Blk w b #[.string s, .int .i64 e] 55) :
    Calls Tryd.prog 38 #[.pointer (some ⟨b, 0, none⟩), .int .i64 x] w fun e w' => e = .returned (.tuple #[]) ∧ Rd w' b ([], x) ∧ Keep (· = b) w w' := by
  have h0 := h.cellN 0 rfl
  have h1 := h.cellN 1 rfl
  have f0 := h.free 0
  have f1 := h.free 1
  go_enter Tryd.func38, Tryd.ntmps38
  go_wp2
  go_end0
  exact ⟨rfl, (h.set 0 _).set 1 _, ((Keep.refl _ _).set1 0 _).set1 1 _⟩

set_option maxHeartbeats 400000 in
theorem end_nil (w : World) :
    Calls Tryd.prog 29 #[.pointer none] w fun e w' => e = .returned (.int .i64 2) ∧ w' = w := by
  go_enter Tryd.func29, Tryd.ntmps29
  go_wp2
  go_ret
  exact ⟨rfl, rfl⟩

def endOf (r : List UInt8 × Int) : Int := if r.2 ≠ 0 then r.2 else if r.1 ≠ [] then 12 else 0

set_option maxHeartbeats 400000 in
theorem end_any (b : Nat) (r : List UInt8 × Int) (w : World) (h : Rd w b r) :
    Calls Tryd.prog 29 #[.pointer (some ⟨b, 0, none⟩)] w fun e w' => e = .returned (.int .i64 (endOf r)) ∧ w' = w := by
  obtain ⟨l, e⟩ := r
  have h0 := Blk.cellN h 0 rfl
  have h1 := Blk.cellN h 1 rfl
  by_cases he : e = 0
  · subst he
    cases l with
    | nil =>
      go_enter Tryd.func29, Tryd.ntmps29
      go_wp2
      go_ret
      exact ⟨rfl, rfl⟩
    | cons c l =>
      go_enter Tryd.func29, Tryd.ntmps29
      go_wp2
      go_ret
      exact ⟨rfl, rfl⟩
  · have he' : (e != 0) = true := by simpa using he
    go_enter Tryd.func29, Tryd.ntmps29
    go_wp2
    go_ret
    exact ⟨by simp [endOf, he], rfl⟩
end Go.Proofs.YtflkinglgnkchaaDoor
