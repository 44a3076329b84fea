/- Merged of: TreeRH. -/
import Derived.Test.YtabcobadglgfkaaGreatDoorMT9
/- The document's directories and digests. -/
namespace Go.Proofs.YtabcobadglgfkaaGreatDoor
open Go.RowKit

theorem less_bytes {fs : List M.Fi} (h : Less fs) : (M.dir fs).length ≤ 1000 ∧ (M.bytes (M.dir fs)).length ≤ 2000000000 := by
  have h1 := Nat.le_trans (M.dir_len fs) h.1
  have h2 := neat_bytes2 (neat_dir h.tame).2
  omega
theorem runder04_any (v : Value) (fs : List M.Fi) (p : List UInt8) (w : World) (h : Fl w v fs) (ht : Less fs) (hl : p.length ≤ 1099511627776) :
    Calls Tryz.prog 34 #[v, S p] w fun e w' => ∃ u, e = .returned u ∧ Fl w' u (if p = [] then fs else M.under fs p) ∧ Old w w' := by
  by_cases hp : p = []
  · subst hp
    rw [if_pos rfl]
    have H := Lib.hid h
    clear h
    go_enter Tryz.func34, Tryz.ntmps34
    go_wp2
    go_ret
    exact ⟨_, rfl, H.out, Below.refl _ _⟩
  · rw [if_neg hp]
    have hpe : p.isEmpty = false := by simpa using hp
    have HU := Lib.hid (runder_any v fs p w h ht.tame.alls hl)
    clear h
    go_enter Tryz.func34, Tryz.ntmps34
    go_wp2_with ((with_reducible refine HU.out.mono ?_); rintro e w1 ⟨u, rfl, hu, o1⟩)
    go_ret
    exact ⟨_, rfl, hu.fl, o1⟩
theorem rdigest_of (hp : PressSpec) (fs : List M.Fi) (v : Value) (w : World) (ht : Less fs)
    (HD : Calls Tryz.prog 15 #[v, S []] w fun e w' => ∃ u, e = .returned u ∧ El w' u (M.dir fs) ∧ Old w w') :
    Calls Tryz.prog 38 #[v] w fun e w' => e = .returned (S (M.sum (M.bytes (M.dir fs)))) ∧ Old w w' := by
  have hlb := less_bytes ht
  have HD := Lib.hid HD
  have HB := Lib.hid (fun (u : Value) (w1 : World) (h : El w1 u (M.dir fs)) => rbytes_any u (M.dir fs) w1 h (by unfold maxLen; omega) (by omega))
  have HS := Lib.hid (fun (w1 : World) => rsum_any hp ⟨⟨M.bytes (M.dir fs)⟩⟩ (by rw [size_mk]; omega) w1)
  generalize M.dir fs = es at *
  generalize M.bytes es = bs at *
  go_enter Tryz.func38, Tryz.ntmps38
  go_wp2_with (first
    | ((with_reducible refine HD.out.mono ?_); rintro e w1 ⟨u, rfl, hu, o1⟩)
    | ((with_reducible refine (HB.out u w1 hu).mono ?_); rintro e w2 ⟨rfl, o2⟩)
    | ((with_reducible refine (HS.out _).mono ?_); rintro e w3 ⟨rfl, o3⟩))
  go_ret
  exact ⟨rfl, (o1.trans o2).trans o3⟩
theorem rdir_rec (hp : PressSpec) (k : Nat) : ∀ (fs : List M.Fi), (∀ f ∈ fs, f.1.length < k) → Less fs → ∀ (v : Value) (w : World), Fl w v fs →
    Calls Tryz.prog 15 #[v, S []] w fun e w' => ∃ u, e = .returned u ∧ El w' u (M.dir fs) ∧ Old w w' := by
  induction k using Nat.strongRecOn with
  | ind k ih =>
    intro fs hk ht v w h
    refine rnames_walk hp fs v [] w ht ?_ ?_
    · have := runder04_any v fs [] w h ht (by simp)
      rwa [if_pos rfl] at this
    · intro n hn w1 v1 h1
      obtain ⟨f, hf, _⟩ := M.mem_names.1 hn
      have hf := hk f hf
      exact rdigest_of hp _ v1 w1 (ht.under n) (ih (k - 1) (by omega) (M.under fs n) (fun g hg => by
        obtain ⟨g', hg', h1, _⟩ := M.under_short hg
        have := hk g' hg'
        omega) (ht.under n) v1 w1 h1)
theorem rdigest_any (hp : PressSpec) (fs : List M.Fi) (v : Value) (w : World) (ht : Less fs) (h : Fl w v fs) :
    Calls Tryz.prog 38 #[v] w fun e w' => e = .returned (S (M.digest' fs)) ∧ Old w w' :=
  rdigest_of hp fs v w ht (rdir_rec hp 1001 fs (fun f hf => by have := (ht.2 f hf).1; omega) ht v w h)
theorem rdir_any (hp : PressSpec) (fs : List M.Fi) (p : List UInt8) (v : Value) (w : World) (ht : Less fs) (h : Fl w v fs) (hl : p.length ≤ 1099511627776) :
    Calls Tryz.prog 15 #[v, S p] w fun e w' => ∃ u, e = .returned u ∧ El w' u (M.dirAt fs p) ∧ Old w w' := by
  have hU := runder04_any v fs p w h ht hl
  unfold M.dirAt
  have hl2 : Less (if p = [] then fs else M.under fs p) := by split; exact ht; exact ht.under p
  have key : Calls Tryz.prog 15 #[v, S p] w fun e w' => ∃ u, e = .returned u ∧ El w' u (M.dir (if p = [] then fs else M.under fs p)) ∧ Old w w' :=
    rnames_walk hp _ v p w hl2 hU (fun n _ w1 v1 h1 => rdigest_any hp _ v1 w1 (hl2.under n) h1)
  by_cases h0 : p = []
  · rw [if_pos h0] at key ⊢; exact key
  · rw [if_neg h0] at key ⊢; exact key
theorem rDigest_any (hp : PressSpec) (fs : List M.Fi) (v : Value) (w : World) (ht : Less fs) (h : Fl w v fs) :
    Calls Tryz.prog 17 #[v] w fun e w' => e = .returned (S (M.digest' fs)) ∧ Old w w' := by
  have HD := Lib.hid (rdigest_any hp fs v w ht h)
  clear h
  generalize M.digest' fs = x at *
  go_enter Tryz.func17, Tryz.ntmps17
  go_wp2_with ((with_reducible refine HD.out.mono ?_); rintro e w1 ⟨rfl, o1⟩)
  go_ret
  exact ⟨rfl, o1⟩
theorem fewT_less {fs : List M.Fi} (h : fewT fs = true) : Less fs := by
  obtain ⟨h1, h2⟩ := fewT_all h
  exact ⟨by omega, fun f hf => by have := h2 f hf; omega⟩
end Go.Proofs.YtabcobadglgfkaaGreatDoor
