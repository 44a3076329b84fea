/- Lists of files in memory: what a slice of files reads as, what the call owns. -/
import Derived.Test.YtcmbmbdjdkldoaaDoorRow
import Derived.Test.YtcmbmbdjdkldoaaDoorPathsM
namespace Go.Proofs.YtcmbmbdjdkldoaaDoor
open Go.RowKit

/-- A text, as a value. -/
abbrev S (l : List UInt8) : Value := .string ⟨⟨l⟩⟩
/-- A file, as a value. -/
abbrev fv (f : M.Fi) : Value := .agg #[.string ⟨⟨f.1⟩⟩, .string ⟨⟨f.2⟩⟩]
/-- Files' cells, two each. -/
def cells (fs : List M.Fi) : List Value := fs.flatMap fun f => [S f.1, S f.2]
theorem cells_nil : cells [] = [] := rfl
theorem cells_append (a b : List M.Fi) : cells (a ++ b) = cells a ++ cells b := by simp [cells]
theorem cells_one (f : M.Fi) : cells [f] = [S f.1, S f.2] := rfl
theorem cells_len : ∀ fs : List M.Fi, (cells fs).length = fs.length * 2
  | [] => rfl
  | f :: r => by
      have := cells_len r
      simp only [cells, List.flatMap_cons, List.length_append, List.length_cons, List.length_nil] at this ⊢
      omega
theorem cells_cons (f : M.Fi) (r : List M.Fi) : cells (f :: r) = S f.1 :: S f.2 :: cells r := by simp [cells]
theorem cells_at : ∀ (fs : List M.Fi) (j : Nat) (h : j < fs.length), (cells fs)[j * 2]? = some (S fs[j].1) ∧ (cells fs)[j * 2 + 1]? = some (S fs[j].2)
  | f :: r, 0, _ => by rw [cells_cons]; exact ⟨rfl, rfl⟩
  | f :: r, j + 1, h => by
      rw [cells_cons]
      have := cells_at r j (by simpa using h)
      rw [show (j + 1) * 2 = j * 2 + 2 by omega, show j * 2 + 2 + 1 = j * 2 + 1 + 2 by omega]
      simpa using this
theorem cells_take (fs : List M.Fi) (n : Nat) : (cells fs).take (n * 2) = cells (fs.take n) := by
  induction fs generalizing n with
  | nil => simp [cells]
  | cons f r ih =>
    cases n with
    | zero => simp [cells]
    | succ n =>
      rw [cells_cons, show (n + 1) * 2 = n * 2 + 2 by omega]
      simp only [List.take_succ_cons, ih, cells_cons]
theorem cells_drop (fs : List M.Fi) (n : Nat) : (cells fs).drop (n * 2) = cells (fs.drop n) := by
  induction fs generalizing n with
  | nil => simp [cells]
  | cons f r ih =>
    cases n with
    | zero => simp
    | succ n =>
      rw [cells_cons, show (n + 1) * 2 = n * 2 + 2 by omega]
      simp only [List.drop_succ_cons, ih]
theorem cells_set (fs : List M.Fi) (j : Nat) (f : M.Fi) : ((cells fs).set (j * 2) (S f.1)).set (j * 2 + 1) (S f.2) = cells (fs.set j f) := by
  induction fs generalizing j with
  | nil => simp [cells]
  | cons g r ih =>
    cases j with
    | zero => simp [cells_cons]
    | succ j =>
      rw [cells_cons, show (j + 1) * 2 = j * 2 + 2 by omega, show j * 2 + 2 + 1 = j * 2 + 1 + 2 by omega]
      simp only [List.set_cons_succ, cells_cons, ih]
theorem cells_inj : ∀ {a b : List M.Fi}, cells a = cells b → a = b
  | [], [], _ => rfl
  | [], _ :: _, h => by rw [cells_cons] at h; cases h
  | _ :: _, [], h => by rw [cells_cons] at h; cases h
  | f :: a, g :: b, h => by
      rw [cells_cons, cells_cons] at h
      simp only [List.cons.injEq] at h
      have h1 : f.1 = g.1 := by have := h.1; simpa using this
      have h2 : f.2 = g.2 := by have := h.2.1; simpa using this
      rw [cells_inj h.2.2, Prod.ext h1 h2]
theorem cells_plain (fs : List M.Fi) : ∀ u ∈ cells fs, u.oneCell' = true := by
  intro u hu
  obtain ⟨f, _, hf⟩ := List.mem_flatMap.1 hu
  simp only [List.mem_cons, List.not_mem_nil, or_false] at hf
  rcases hf with rfl | rfl <;> rfl

/-- The slice v reads as the files fs, two cells each. -/
def Fl (w : World) (v : Value) (fs : List M.Fi) : Prop :=
  ∃ p cap, v = .slice p fs.length cap ∧ (p = none → cap = 0) ∧ fs.length ≤ cap ∧ (fs ≠ [] → ∃ b off, p = some ⟨b, off, none⟩ ∧ b < w.heap.size ∧
    ∀ j (h : j < fs.length), w.cell? ⟨b, off + j * 2, none⟩ = some (S fs[j].1) ∧ w.cell? ⟨b, off + j * 2 + 1, none⟩ = some (S fs[j].2))
theorem Fl.old {w w' : World} {v : Value} {fs : List M.Fi} (h : Fl w v fs) (k : Old w w') : Fl w' v fs := by
  obtain ⟨p, cap, hv, h0, hc, hx⟩ := h
  refine ⟨p, cap, hv, h0, hc, fun hne => ?_⟩
  obtain ⟨b, off, hp, hb, hx⟩ := hx hne
  have hs := k.size
  exact ⟨b, off, hp, by omega, fun j hj => ⟨(k.cell (p := ⟨b, off + j * 2, none⟩) hb).trans (hx j hj).1, (k.cell (p := ⟨b, off + j * 2 + 1, none⟩) hb).trans (hx j hj).2⟩⟩
theorem Fl.drewN {w : World} {v : Value} {fs : List M.Fi} (h : Fl w v fs) (n : Nat) : Fl (w.drewN n) v fs := h
theorem Fl.len {w : World} {v : Value} {fs : List M.Fi} (h : Fl w v fs) : ∃ p cap, v = .slice p fs.length cap := by
  obtain ⟨p, cap, hv, _⟩ := h
  exact ⟨p, cap, hv⟩
theorem Fl.at {w : World} {p : Option Addr} {n cap : Nat} {fs : List M.Fi} (h : Fl w (.slice p n cap) fs) (hne : fs ≠ []) :
    ∃ b off, p = some ⟨b, off, none⟩ ∧ b < w.heap.size ∧ ∀ j (h : j < fs.length), w.cell? ⟨b, off + j * 2, none⟩ = some (S fs[j].1) ∧ w.cell? ⟨b, off + j * 2 + 1, none⟩ = some (S fs[j].2) := by
  obtain ⟨p', cap', hv, _, _, hx⟩ := h
  injection hv with h1 h2 h3
  subst h1
  exact hx hne
theorem Fl.len' {w : World} {p : Option Addr} {n cap : Nat} {fs : List M.Fi} (h : Fl w (.slice p n cap) fs) : fs.length = n := by
  obtain ⟨p', cap', hv, _⟩ := h
  injection hv with h1 h2 h3
  exact h2.symm
theorem Fl.nil (w : World) : Fl w (.slice none 0 0) [] := ⟨none, 0, rfl, fun _ => rfl, Nat.le_refl _, fun h => absurd rfl h⟩

/-- The call owns the slice v, which reads as the files fs; its block is none of those below B. -/
abbrev Own (B : Nat) (w : World) (v : Value) (fs : List M.Fi) : Prop := w.ownsRow B 36 2 v fs.length (cells fs)
theorem Own.fl {B : Nat} {w : World} {v : Value} {fs : List M.Fi} (h : Own B w v fs) : Fl w v fs := by
  obtain ⟨_, ⟨hv, hn⟩ | ⟨g, cap, cur, hv, hg, hb, hcap, hmax, hsz, htake⟩⟩ := h
  · rw [List.eq_nil_of_length_eq_zero hn, hv]; exact Fl.nil w
  · refine ⟨_, cap, hv, (fun h => by cases h), hcap, fun _ => ⟨g, 0, rfl, (Array.getElem?_eq_some_iff.1 hb).1, fun j hj => ?_⟩⟩
    have hx : ∀ i, i < fs.length * 2 → w.cell? ⟨g, 0 + i, none⟩ = (cells fs)[i]? := fun i hi => by
      rw [← htake, List.getElem?_take, if_pos hi, Nat.zero_add]
      simp [World.cell?, hb]
    have e := cells_at fs j hj
    exact ⟨(hx _ (by omega)).trans e.1, (hx (j * 2 + 1) (by omega)).trans e.2⟩
theorem Own.nil (B : Nat) (w : World) : Own B w (.slice none 0 0) [] := World.ownsRow_nil w B _ 2
theorem Own.old {B : Nat} {w w' : World} {v : Value} {fs : List M.Fi} (h : Own B w v fs) (k : Old w w') : Own B w' v fs := row_keep h (Keep.of_old (S := fun _ => False) k) (fun _ _ h => h)
theorem Own.mono {B B' : Nat} {w : World} {v : Value} {fs : List M.Fi} (h : Own B w v fs) (hB : B' ≤ B) : Own B' w v fs := by
  refine ⟨h.1, ?_⟩
  rcases h.2 with hn | ⟨g, cap, cur, hv, hg, rest⟩
  · exact Or.inl hn
  · exact Or.inr ⟨g, cap, cur, hv, by omega, rest⟩

theorem infoFile : (Tryd.prog.info? 36).map (fun i => (i.zero, i.size, i.bytes)) = some (some (.agg #[.string ByteArray.empty, .string ByteArray.empty]), 2, 32) := by kernel_rfl
end Go.Proofs.YtcmbmbdjdkldoaaDoor
