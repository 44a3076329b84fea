/- The search for the first file of a kind, and what leans on it. -/
import Derived.Test.YtcmbmbdjdkldoaaDoorPathsC
import Derived.Shelf.Abstract
namespace Go.Proofs.YtcmbmbdjdkldoaaDoor
open Go.RowKit

/-- The place of the first file of a kind, or -1. -/
def idx (p : M.Fi → Bool) (fs : List M.Fi) : Int := match fs.findIdx? p with | some i => i | none => -1
theorem idx_hit {p : M.Fi → Bool} {fs : List M.Fi} {k : Nat} (hk : k < fs.length) (h : p fs[k] = true) (hn : ∀ j (hj : j < fs.length), j < k → p fs[j] = false) : idx p fs = k := by
  have : fs.findIdx? p = some k := List.findIdx?_eq_some_iff_getElem.2 ⟨hk, h, fun j hj => by rw [hn j (by omega) hj]; simp⟩
  unfold idx
  rw [this]
theorem idx_miss {p : M.Fi → Bool} {fs : List M.Fi} (hn : ∀ j (hj : j < fs.length), p fs[j] = false) : idx p fs = -1 := by
  have : fs.findIdx? p = none := List.findIdx?_eq_none_iff.2 fun x hx => by
    obtain ⟨j, hj, rfl⟩ := List.getElem_of_mem hx
    exact hn j hj
  unfold idx
  rw [this]
theorem idx_cases (p : M.Fi → Bool) (fs : List M.Fi) : (idx p fs = -1 ∧ ∀ f ∈ fs, p f = false) ∨ ∃ (k : Nat) (hk : k < fs.length), idx p fs = k ∧ p fs[k] = true ∧ ∀ j (hj : j < fs.length), j < k → p fs[j] = false := by
  unfold idx
  cases h : fs.findIdx? p with
  | none => exact Or.inl ⟨rfl, fun f hf => List.findIdx?_eq_none_iff.1 h f hf⟩
  | some k =>
    obtain ⟨hk, h1, h2⟩ := List.findIdx?_eq_some_iff_getElem.1 h
    exact Or.inr ⟨k, hk, rfl, h1, fun j hj hjk => by simpa using h2 j hjk⟩
theorem idx_any (p : M.Fi → Bool) (fs : List M.Fi) : decide (0 ≤ idx p fs) = fs.any p := by
  rcases idx_cases p fs with ⟨h1, h2⟩ | ⟨k, hk, h1, h2, _⟩
  · rw [h1, (List.any_eq_false).2 (fun x hx => by rw [h2 x hx]; simp)]
    rfl
  · rw [h1, (List.any_eq_true).2 ⟨_, List.getElem_mem hk, h2⟩]
    exact decide_eq_true (by omega)

set_option maxHeartbeats 1000000 in
set_option maxRecDepth 100000 in
theorem indexFunc_any (g : Nat) (lb : Array Value) (eg : ∀ args w, (callFunc g args).run Tryd.prog w = .ok (.enter g args) w) (p : M.Fi → Bool) (ok : M.Fi → Prop) (v : Value) (fs : List M.Fi) (w : World) (h : Fl w v fs) (hok : ∀ f ∈ fs, ok f)
    (hp : Tests g lb p ok w) (hlen : fs.length ≤ maxLen) :
    Calls Tryd.prog 54 #[v, .func (.func g) #[] lb] w fun e w' => e = .returned (.int .i64 (idx p fs)) ∧ Old w w' := by
  unfold maxLen at hlen
  obtain ⟨pp, cap, rfl⟩ := h.len
  have H := Lib.hid h
  have HP := Lib.hid hp
  have HOK := Lib.hid hok
  clear h hp hok
  go_enter Tryd.func54, Tryd.ntmps54
  go_wp2
  go_loopw [5, 8] (fun _ i wr => ∃ k : Nat, k ≤ fs.length ∧ i = .int .i64 k ∧ Old w wr ∧ Hid (∀ j (hj : j < fs.length), j < k → p fs[j] = false)) (fun _ i _ => fs.length - (intOf i).toNat)
  case atStart => exact ⟨0, Nat.zero_le _, rfl, Below.refl _ _, Lib.hid (fun j _ h => absurd h (Nat.not_lt_zero _))⟩
  case round =>
    obtain ⟨k, hk, rfl, ho, hall⟩ := hrel
    have HO := Lib.hid ho
    clear ho
    by_cases hlt : k < fs.length
    · obtain ⟨b, off, rfl, hb, hc⟩ := (H.out.old HO.out).at (by intro h; rw [h] at hlt; exact absurd hlt (Nat.not_lt_zero _))
      obtain ⟨hc0, hc1⟩ := hc k hlt
      have HC := Lib.hid (HP.out wr fs[k] (HOK.out _ (List.getElem_mem hlt)) HO.out)
      clear hc
      generalize hr : p fs[k] = r at HC
      have HR := Lib.hid hr
      clear hr
      unfold fv at HC
      generalize fs[k] = f at hc0 hc1 HC
      cases r with
      | true =>
        go_wp2_with (go_at_fn g; refine HC.out.mono ?_; rintro e w1 ⟨rfl, ho1⟩)
        go_ret
        exact ⟨ret_int (idx_hit hlt HR.out hall.out).symm, HO.out.trans ho1⟩
      | false =>
        go_wp2_with (go_at_fn g; refine HC.out.mono ?_; rintro e w1 ⟨rfl, ho1⟩)
        go_roundw
        case rel =>
          refine ⟨k + 1, by omega, by go_num, HO.out.trans ho1, Lib.hid (fun j hj hjk => ?_)⟩
          by_cases he : j = k
          · subst he; exact HR.out
          · exact hall.out j hj (by omega)
        case measure => simp [intOf]; omega
    · obtain rfl : k = fs.length := by omega
      go_wp2
      go_ret
      exact ⟨ret_int (idx_miss (fun j hj => hall.out j hj hj)).symm, HO.out⟩
end Go.Proofs.YtcmbmbdjdkldoaaDoor
