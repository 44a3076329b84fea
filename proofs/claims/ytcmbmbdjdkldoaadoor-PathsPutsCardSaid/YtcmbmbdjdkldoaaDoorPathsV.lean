/- Files appended to files that the call owns. -/
import Derived.Test.YtcmbmbdjdkldoaaDoorPathsU
namespace Go.Proofs.YtcmbmbdjdkldoaaDoor
open Go.RowKit

theorem Fl.news {w : World} {a : Addr} {n cap : Nat} {fs : List M.Fi} (h : Fl w (.slice (some a) n cap) fs) : ∀ j u, (cells fs)[j]? = some u → w.cell? (a.add j) = some u := by
  intro j u hj
  have hjl := (List.getElem?_eq_some_iff.1 hj).1
  rw [cells_len] at hjl
  obtain ⟨b, off, ha, _, hc⟩ := h.at (by intro h; rw [h] at hjl; simp at hjl)
  cases ha
  have hk : j / 2 < fs.length := by omega
  obtain ⟨c0, c1⟩ := hc (j / 2) hk
  obtain ⟨e0, e1⟩ := cells_at fs (j / 2) hk
  rw [Addr.add_lit]
  by_cases hp : j % 2 = 0
  · have e : j = j / 2 * 2 := by omega
    rw [← e] at e0 c0
    rw [c0, ← hj, e0]
  · have e : j = j / 2 * 2 + 1 := by omega
    rw [Nat.add_assoc, ← e] at c1
    rw [← e] at e1
    rw [c1, ← hj, e1]
theorem Fl.take {w : World} {p : Option Addr} {n cap : Nat} {fs : List M.Fi} (h : Fl w (.slice p n cap) fs) (k : Nat) (hk : k ≤ n) : Fl w (.slice p k cap) (fs.take k) := by
  have hn := h.len'
  obtain ⟨p', cap', hv, h0, hc, hx⟩ := h
  obtain ⟨rfl, rfl⟩ : p = p' ∧ cap = cap' := by injection hv with h1 h2 h3; exact ⟨h1, h3⟩
  refine ⟨p, cap, by rw [List.length_take, Nat.min_eq_left (by omega)], h0, by rw [List.length_take]; omega, fun hne => ?_⟩
  obtain ⟨b, off, hp, hb, hcc⟩ := hx (by intro h; rw [h] at hne; simp at hne)
  refine ⟨b, off, hp, hb, fun j hj => ?_⟩
  rw [List.length_take] at hj
  have := hcc j (by omega)
  simpa using this
theorem Fl.drop {w : World} {b off n cap : Nat} {fs : List M.Fi} (h : Fl w (.slice (some ⟨b, off, none⟩) n cap) fs) (k : Nat) (hk : k ≤ n) : Fl w (.slice (some ⟨b, off + k * 2, none⟩) (n - k) (cap - k)) (fs.drop k) := by
  have hn := h.len'
  obtain ⟨p', cap', hv, h0, hc, hx⟩ := h
  obtain ⟨hp1, rfl⟩ : some ⟨b, off, none⟩ = p' ∧ cap = cap' := by injection hv with h1 h2 h3; exact ⟨h1, h3⟩
  subst hp1
  refine ⟨_, _, by rw [List.length_drop, hn], (fun h => by cases h), by rw [List.length_drop]; omega, fun hne => ?_⟩
  obtain ⟨b', off', hp, hb, hcc⟩ := hx (by intro h; rw [h] at hne; simp at hne)
  cases hp
  refine ⟨b, off + k * 2, rfl, hb, fun j hj => ?_⟩
  rw [List.length_drop] at hj
  have := hcc (k + j) (by omega)
  rw [List.getElem_drop, show off + k * 2 + j * 2 = off + (k + j) * 2 by omega]
  exact this
theorem Fl.void (w : World) (a : Addr) (n k cap : Nat) (fs : List M.Fi) (hn : fs.length = n) (hk : n ≤ k) : Fl w (.slice (some a) (n - k) cap) (fs.drop k) := by
  rw [List.drop_eq_nil_of_le (by omega), show n - k = 0 by omega]
  exact ⟨some a, cap, rfl, (fun h => by cases h), Nat.zero_le _, fun h => absurd rfl h⟩
theorem Fl.none_of (w : World) (p : Option Addr) (cap : Nat) (h : p = none → cap = 0) : Fl w (.slice p 0 cap) [] := ⟨p, cap, rfl, h, Nat.zero_le _, fun h => absurd rfl h⟩

theorem wpList_append_files {w : World} {ops : Array Oper} {rest : List Oper} {o : Oper} {a : Act} {Q : Exit → Act → World → Prop} (hgd : o.guard = none) (s x : Operand)
    (ho : o.op = .call { callee := .builtin .append, args := #[s, x], argTypes := #[26, 26] })
    (B : Nat) (v : Value) (acc : List M.Fi) (hs : a.eval s = v) (hown : Own B w v acc) (xv : Value) (gs : List M.Fi) (hx : a.eval x = xv) (hfl : Fl w xv gs) (hlen : acc.length + gs.length ≤ 2199023255552) (hB : B ≤ w.heap.size)
    (h : ∀ v' w', Own B w' v' (acc ++ gs) → w.grownBy w' v.ownBlock → wpList Tryd.prog ops Q rest (a.put o.dst v') w') : wpList Tryd.prog ops Q (o :: rest) a w := by
  obtain ⟨i0, hi, hz0, hz1, hz2⟩ := info_parts infoFile
  obtain ⟨p, cap, rfl⟩ := hfl.len
  cases p with
  | none =>
    obtain ⟨p', cap', hv, h0, hc, _⟩ := hfl
    obtain ⟨rfl, rfl⟩ : none = p' ∧ cap = cap' := by injection hv with h1 h2 h3; exact ⟨h1, h3⟩
    have hc0 := h0 rfl
    have hg : gs = [] := List.eq_nil_of_length_eq_zero (by omega)
    subst hc0; subst hg
    refine wpList_append_own_none hgd s x 26 ho B 36 i0 2 Tryd.underlying26 hi v acc.length (cells acc) hs hown hx ?_
    exact h v w (by rw [List.append_nil]; exact hown) ⟨rfl, rfl, rfl, Nat.le_refl _, fun _ _ _ => rfl⟩
  | some ad =>
    refine wpList_append_own w hgd s x 26 ho B 36 i0 _ 2 32 Tryd.underlying26 hi hz0 hz1 hz2 rfl (by decide) v acc.length (cells acc) hs hown ad gs.length cap (cells gs) hx (cells_len gs) hfl.news (cells_plain gs) (by unfold maxLen; omega) (by omega) hB ?_
    intro v' w' h1 h2 _
    refine h v' w' ?_ h2
    show w'.ownsRow B 36 2 v' (acc ++ gs).length (cells (acc ++ gs))
    rw [cells_append, List.length_append]
    exact h1
theorem Old.grownOwn {B : Nat} {a w w2 : World} {u : Value} {acc : List M.Fi} (h : Own B w u acc) (ha : a.heap.size ≤ B) (ho : Old a w) (h2 : w.grownBy w2 u.ownBlock) : Old a w2 :=
  Keep.old ((Keep.of_old (S := fun _ => False) ho).grown h2 (fun q hq => Or.inl (Nat.le_trans ha (row_from h q hq)))) (fun _ _ h => h)
end Go.Proofs.YtcmbmbdjdkldoaaDoor
