/- The reader's next text, call by call. -/
import Derived.Test.YtflkinglgnkchaaDoorPackA
import Derived.Test.YtflkinglgnkchaaDoorPackB
namespace Go.Proofs.YtflkinglgnkchaaDoor
open Go.RowKit

/-- What the next text is, whether there is one, and the reader behind it. -/
def nextS (r : List UInt8 × Int) : List UInt8 × Bool × (List UInt8 × Int) :=
  if r.2 ≠ 0 then ([], false, r) else if (M.cut r.1).2.2 ≠ 0 then ([], false, ([], (M.cut r.1).2.2)) else ((M.cut r.1).1, true, ((M.cut r.1).2.1, 0))

set_option maxHeartbeats 400000 in
theorem next_nil (w : World) :
    Calls Tryd.prog 35 #[.pointer none] w fun e w' => e = .returned (.tuple #[.string ⟨⟨[]⟩⟩, .bool false]) ∧ w' = w := by
  go_enter Tryd.func35, Tryd.ntmps35
  go_wp2
  go_ret2
  exact ⟨rfl, rfl⟩

set_option maxHeartbeats 1000000 in
theorem next_any (b : Nat) (r : List UInt8 × Int) (w : World) (h : Rd w b r) (hs : r.1.length ≤ maxLen) :
    Calls Tryd.prog 35 #[.pointer (some ⟨b, 0, none⟩)] w fun e w' => e = .returned (.tuple #[.string ⟨⟨(nextS r).1⟩⟩, .bool (nextS r).2.1]) ∧ Rd w' b (nextS r).2.2 ∧ Keep (· = b) w w' := by
  obtain ⟨l, x⟩ := r
  have h0 := Blk.cellN h 0 rfl
  have h1 := Blk.cellN h 1 rfl
  have f0 := Blk.free h 0
  have f1 := Blk.free h 1
  have hB : Blk w b #[.string ⟨⟨l⟩⟩, .int .i64 x] 55 := h
  by_cases he : x = 0
  · subst he
    have hcut := cut_any ⟨⟨l⟩⟩ w (by simpa [ByteArray.size] using hs)
    rw [ba_list] at hcut
    have hS : nextS (l, 0) = if (M.cut l).2.2 ≠ 0 then ([], false, ([], (M.cut l).2.2)) else ((M.cut l).1, true, ((M.cut l).2.1, 0)) := by simp [nextS]
    rw [hS]
    generalize hc : M.cut l = c at *
    obtain ⟨t, rest, err⟩ := c
    clear hc hS
    have HC := Lib.hid hcut
    clear hcut
    by_cases herr : err = 0
    · subst herr
      go_enter Tryd.func35, Tryd.ntmps35
      go_wp2_with ((with_reducible refine HC.out.mono ?_); rintro e w' ⟨rfl, n, rfl⟩; simp only [cutV])
      go_ret2
      exact ⟨rfl, Blk.set (Blk.drewN h n) 0 _, ((Keep.refl _ _).drewN n).set1 0 _⟩
    · have he' : (err != 0) = true := by simpa using herr
      go_enter Tryd.func35, Tryd.ntmps35
      go_wp2_with (first | ((with_reducible refine HC.out.mono ?_); rintro e w' ⟨rfl, n, rfl⟩; simp only [cutV]) | ((with_reducible refine (fail_any b _ _ err _ (Blk.drewN hB _)).mono ?_); rintro e w' ⟨rfl, h', k'⟩))
      go_ret2
      exact ⟨rfl, h', ((Keep.refl _ _).drewN _).trans k'⟩
  · have he' : (x != 0) = true := by simpa using he
    have hS : nextS (l, x) = ([], false, (l, x)) := by simp [nextS, he]
    rw [hS]
    go_enter Tryd.func35, Tryd.ntmps35
    go_wp2
    go_ret2
    exact ⟨rfl, h, Keep.refl _ _⟩

set_option maxHeartbeats 400000 in
theorem text_nil (w : World) :
    Calls Tryd.prog 21 #[.pointer none] w fun e w' => e = .returned (.string ⟨⟨[]⟩⟩) ∧ w' = w := by
  go_enter Tryd.func21, Tryd.ntmps21
  go_wp2_with ((with_reducible refine (next_nil _).mono ?_); rintro e w' ⟨rfl, rfl⟩)
  go_ret
  exact ⟨rfl, rfl⟩

set_option maxHeartbeats 400000 in
theorem text_any (b : Nat) (r : List UInt8 × Int) (w : World) (h : Rd w b r) (hs : r.1.length ≤ maxLen) :
    Calls Tryd.prog 21 #[.pointer (some ⟨b, 0, none⟩)] w fun e w' => e = .returned (.string ⟨⟨(nextS r).1⟩⟩) ∧ Rd w' b (nextS r).2.2 ∧ Keep (· = b) w w' := by
  generalize hn : nextS r = n
  obtain ⟨t, ok, r'⟩ := n
  have HN := next_any b r w h hs
  rw [hn] at HN
  have HN' := Lib.hid HN
  clear HN hn
  go_enter Tryd.func21, Tryd.ntmps21
  go_wp2_with ((with_reducible refine HN'.out.mono ?_); rintro e w' ⟨rfl, h', k'⟩)
  go_ret
  exact ⟨rfl, h', k'⟩
end Go.Proofs.YtflkinglgnkchaaDoor
