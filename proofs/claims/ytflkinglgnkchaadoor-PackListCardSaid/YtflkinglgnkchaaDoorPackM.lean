/- Plain facts on bytes: the digits at a text's beginning, the number that they say, and the first packed text of bytes. Nothing of the program stands here. -/
import Derived.KernelRfl
namespace Go.Proofs.YtflkinglgnkchaaDoor.M

def isDig (c : UInt8) : Bool := decide (48 ≤ c.toNat) && decide (c.toNat ≤ 57)
/-- The digits at the beginning, 7 at most. -/
def digs (l : List UInt8) : List UInt8 := (l.take 7).takeWhile isDig
def num (l : List UInt8) : Nat := l.foldl (fun n c => n * 10 + (c.toNat - 48)) 0

theorem digs_len7 (l : List UInt8) : (digs l).length ≤ 7 := by
  unfold digs
  have h1 := (List.takeWhile_sublist isDig (l := l.take 7)).length_le
  have h2 := List.length_take_le 7 l
  omega
theorem digs_len (l : List UInt8) : (digs l).length ≤ l.length := by
  unfold digs
  have h1 := (List.takeWhile_sublist isDig (l := l.take 7)).length_le
  have h2 := List.length_take_le' 7 l
  omega
theorem takeWhile_len_iff {p : UInt8 → Bool} : ∀ (l : List UInt8) (k : Nat), k ≤ (l.takeWhile p).length → (k < (l.takeWhile p).length ↔ ∃ h : k < l.length, p l[k] = true)
  | [], k, _ => by simp
  | a :: l, 0, _ => by
      by_cases h : p a <;> simp [h]
  | a :: l, k + 1, h => by
      by_cases ha : p a = true
      · simp only [List.takeWhile_cons, ha, if_true, List.length_cons] at h ⊢
        have := takeWhile_len_iff (p := p) l k (by omega)
        simp only [Nat.add_lt_add_iff_right, List.getElem_cons_succ]
        exact this
      · simp [ha] at h
theorem digs_more (l : List UInt8) (k : Nat) (h : k ≤ (digs l).length) : k < (digs l).length ↔ k < 7 ∧ ∃ h : k < l.length, isDig l[k] = true := by
  unfold digs at h ⊢
  rw [takeWhile_len_iff _ _ h]
  constructor
  · rintro ⟨h1, h2⟩
    have : k < 7 ∧ k < l.length := by simpa [Nat.lt_min] using h1
    exact ⟨this.1, this.2, by simpa using h2⟩
  · rintro ⟨h1, h2, h3⟩
    exact ⟨by simp; omega, by simpa using h3⟩
theorem digs_take (l : List UInt8) : digs l = l.take (digs l).length := by
  unfold digs
  have h := List.takeWhile_append_dropWhile (p := isDig) (l := l.take 7)
  have h1 : (l.take 7).takeWhile isDig = (l.take 7).take ((l.take 7).takeWhile isDig).length := by
    have := List.take_left (l₁ := (l.take 7).takeWhile isDig) (l₂ := (l.take 7).dropWhile isDig)
    rw [h] at this
    exact this.symm
  have h2 := (List.takeWhile_sublist isDig (l := l.take 7)).length_le
  have h3 := List.length_take_le 7 l
  rw [List.take_take, Nat.min_eq_left (by omega)] at h1
  exact h1
theorem num_snoc (l : List UInt8) (c : UInt8) : num (l ++ [c]) = num l * 10 + (c.toNat - 48) := by simp [num]
theorem snoc_ind {p : List UInt8 → Prop} (h0 : p []) (h1 : ∀ l c, p l → p (l ++ [c])) (l : List UInt8) : p l := by
  rw [← List.reverse_reverse l]
  induction l.reverse with
  | nil => exact h0
  | cons c t ih => rw [List.reverse_cons]; exact h1 _ _ ih
theorem num_lt (l : List UInt8) : (∀ c ∈ l, isDig c = true) → num l < 10 ^ l.length := by
  refine snoc_ind (p := fun l => (∀ c ∈ l, isDig c = true) → num l < 10 ^ l.length) ?_ ?_ l
  · simp [num]
  · intro l c ih h
    have h1 := ih (fun x hx => h x (by simp [hx]))
    have h2 := h c (by simp)
    simp [isDig] at h2
    rw [num_snoc]
    simp [Nat.pow_succ]
    omega
theorem mem_tw {p : UInt8 → Bool} {c : UInt8} : ∀ {l : List UInt8}, c ∈ l.takeWhile p → p c = true
  | [], h => by simp at h
  | a :: l, h => by
      by_cases ha : p a = true
      · simp only [List.takeWhile_cons, ha, if_true, List.mem_cons] at h
        rcases h with rfl | h
        · exact ha
        · exact mem_tw h
      · simp [ha] at h
theorem digs_dig (l : List UInt8) : ∀ c ∈ digs l, isDig c = true := fun c h => by
  unfold digs at h
  exact mem_tw h

/-- THE FIRST PACKED TEXT of bytes, what is behind it, and what is wrong. -/
def cut (l : List UInt8) : List UInt8 × List UInt8 × Int :=
  let k := (digs l).length
  let n := num (digs l)
  if k = l.length then ([], [], 10)
  else if l[k]? ≠ some 58 ∨ k = 0 ∨ (1 < k ∧ l[0]? = some 48) then ([], [], 11)
  else if (l.drop (k + 1)).length < n + 1 then ([], [], 10)
  else if (l.drop (k + 1))[n]? ≠ some 44 then ([], [], 11)
  else ((l.drop (k + 1)).take n, (l.drop (k + 1)).drop (n + 1), 0)
end Go.Proofs.YtflkinglgnkchaaDoor.M
