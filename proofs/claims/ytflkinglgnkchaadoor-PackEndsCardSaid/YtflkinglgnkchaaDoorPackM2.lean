/- Plain facts on packed texts: what is packed is cut off again, a list is unpacked text by text. Nothing of the program stands here. -/
import Derived.Test.YtflkinglgnkchaaDoorPackM
import Derived.Test.YtflkinglgnkchaaDoorNumM
namespace Go.Proofs.YtflkinglgnkchaaDoor.M
open Go.Lib

theorem cut_shorter {l : List UInt8} (h : (cut l).2.2 = 0) : (cut l).2.1.length + (cut l).1.length < l.length ∧ l ≠ [] := by
  unfold cut at h ⊢
  simp only at h ⊢
  split at h
  · simp at h
  · rename_i h1
    rw [if_neg h1]
    split at h
    · simp at h
    · rename_i h2
      rw [if_neg h2]
      split at h
      · simp at h
      · rename_i h3
        rw [if_neg h3]
        split at h
        · simp at h
        · rename_i h4
          rw [if_neg h4]
          simp only [List.length_drop] at h3
          constructor
          · simp only [List.length_drop, List.length_take]; omega
          · rintro rfl; simp at h3
/-- All packed texts of bytes, to their end. -/
def unp : Nat → List UInt8 → Option (List (List UInt8))
  | 0, _ => some []
  | n + 1, l => if l = [] then some [] else if (cut l).2.2 ≠ 0 then none else (unp n (cut l).2.1).map ((cut l).1 :: ·)
theorem unp_fuel : ∀ (n m : Nat) (l : List UInt8), l.length ≤ n → l.length ≤ m → unp n l = unp m l
  | 0, 0, _, _, _ => rfl
  | 0, m + 1, l, h, _ => by
      obtain rfl : l = [] := List.eq_nil_of_length_eq_zero (by omega)
      simp [unp]
  | n + 1, 0, l, _, h => by
      obtain rfl : l = [] := List.eq_nil_of_length_eq_zero (by omega)
      simp [unp]
  | n + 1, m + 1, l, h, h' => by
      simp only [unp]
      by_cases h0 : l = []
      · simp [h0]
      · rw [if_neg h0, if_neg h0]
        by_cases hc : (cut l).2.2 = 0
        · have := cut_shorter hc
          rw [unp_fuel n m (cut l).2.1 (by omega) (by omega)]
        · simp [hc]
def unpk (l : List UInt8) : Option (List (List UInt8)) := unp l.length l
theorem unpk_nil : unpk [] = some [] := rfl
theorem unpk_bad {l : List UInt8} (h0 : l ≠ []) (h : (cut l).2.2 ≠ 0) : unpk l = none := by
  unfold unpk
  cases l with
  | nil => exact absurd rfl h0
  | cons c r => simp [unp, h]
theorem unpk_ok {l : List UInt8} (h : (cut l).2.2 = 0) : unpk l = (unpk (cut l).2.1).map ((cut l).1 :: ·) := by
  have hs := cut_shorter h
  unfold unpk
  cases l with
  | nil => exact absurd rfl hs.2
  | cons c r =>
    rw [show (c :: r).length = r.length + 1 from rfl, unp, if_neg (by simp), if_neg (by simpa using h)]
    rw [unp_fuel r.length (cut (c :: r)).2.1.length (cut (c :: r)).2.1 (by have := hs.1; simp only [List.length_cons] at this; omega) (Nat.le_refl _)]

/-- A text, packed. -/
def pack (l : List UInt8) : List UInt8 := itoa l.length ++ 58 :: l ++ [44]
def packs (l : List (List UInt8)) : List UInt8 := (l.map pack).flatten

theorem itoa_nat (n : Nat) : itoa (n : Int) = decDigits n := by unfold itoa; rw [if_neg (by omega)]; simp
theorem num_dec (u : Nat) : num (decDigits u) = u := by
  refine dec_ind (p := fun u => num (decDigits u) = u) ?_ ?_ u
  · intro u h
    rw [dec_small h]
    simp only [num, List.foldl_cons, List.foldl_nil]
    rw [ofNat_toNat h]; omega
  · intro u h ih
    rw [dec_big h, num_snoc, ih, ofNat_toNat (by omega)]; omega
theorem takeWhile_all {p : UInt8 → Bool} : ∀ (l r : List UInt8), (∀ c ∈ l, p c = true) → (l ++ r).takeWhile p = l ++ r.takeWhile p
  | [], r, _ => by simp
  | c :: l, r, h => by
      rw [List.cons_append, List.takeWhile_cons, if_pos (h c (by simp)), takeWhile_all l r (fun x hx => h x (by simp [hx]))]
      rfl
theorem digs_dec (u : Nat) (h : u < 10000000) (r : List UInt8) : digs (decDigits u ++ 58 :: r) = decDigits u := by
  have hl : (decDigits u).length ≤ 7 := dec_len u 7 (by omega) (by omega)
  unfold digs
  rw [List.take_append, List.take_of_length_le hl, takeWhile_all _ _ (fun c hc => by have := dec_dig u c hc; simp [isDig]; omega)]
  have : ((58 :: r).take (7 - (decDigits u).length)).takeWhile isDig = [] := by
    cases 7 - (decDigits u).length with
    | zero => simp
    | succ n => rw [List.take_succ_cons, List.takeWhile_cons, if_neg (by decide)]
  rw [this, List.append_nil]
theorem dec_one {u : Nat} (h : 1 < (decDigits u).length) : (decDigits u)[0]? ≠ some 48 := by
  have hu : 0 < u := by
    rcases Nat.eq_zero_or_pos u with rfl | h0
    · rw [dec_small (by omega)] at h; simp at h
    · exact h0
  obtain ⟨c, r, hc, h49⟩ := dec_head u hu
  rw [hc]
  intro h'
  have : c = 48 := by simpa using h'
  subst this
  exact absurd h49 (by decide)
theorem cut_pack (l r : List UInt8) (h : l.length < 10000000) : cut (pack l ++ r) = (l, r, 0) := by
  have e : pack l ++ r = decDigits l.length ++ 58 :: (l ++ 44 :: r) := by simp [pack, itoa_nat]
  rw [e]
  have hd := digs_dec l.length h (l ++ 44 :: r)
  have hn := num_dec l.length
  have hne : (decDigits l.length) ≠ [] := dec_ne _
  have h1 := @dec_one l.length
  generalize decDigits l.length = d at *
  unfold cut
  simp only [hd, hn]
  have hdl : d.length ≠ 0 := by simpa using hne
  rw [if_neg (by simp), if_neg, if_neg, if_neg]
  · have a1 : List.drop (d.length + 1) d = [] := List.drop_eq_nil_of_le (by omega)
    have a3 : List.drop (l.length + 1) l = [] := List.drop_eq_nil_of_le (by omega)
    simp [List.drop_append, a1, a3]
  · simp [List.drop_append]
  · simp [List.drop_append]
  · rintro (h2 | h2 | ⟨h2, h3⟩)
    · exact h2 (by simp)
    · exact hdl h2
    · rw [List.getElem?_append_left (by omega)] at h3
      exact h1 h2 h3
theorem pack_ne (l : List UInt8) : pack l ≠ [] := by simp [pack]
theorem unpk_packs : ∀ (l : List (List UInt8)), (∀ s ∈ l, s.length < 10000000) → unpk (packs l) = some l
  | [], _ => rfl
  | s :: l, h => by
      have hc := cut_pack s (packs l) (h s (by simp))
      have e : packs (s :: l) = pack s ++ packs l := by simp [packs]
      rw [e, unpk_ok (by rw [hc]), hc, unpk_packs l (fun x hx => h x (by simp [hx]))]
      rfl
theorem packs_snoc (l : List (List UInt8)) (s : List UInt8) : packs (l ++ [s]) = packs l ++ pack s := by simp [packs]
theorem packs_take (l : List (List UInt8)) (k : Nat) : (packs (l.take k)).length ≤ (packs l).length := by
  have h : (packs (l.take k ++ l.drop k)).length = (packs (l.take k)).length + (packs (l.drop k)).length := by unfold packs; rw [List.map_append, List.flatten_append, List.length_append]
  rw [List.take_append_drop] at h
  omega
theorem pack_len (l : List UInt8) (h : l.length < 1000000000000000000) : (pack l).length ≤ l.length + 20 := by
  have := dec_len l.length 18 (by omega) (by omega)
  simp [pack, itoa_nat]; omega
end Go.Proofs.YtflkinglgnkchaaDoor.M
