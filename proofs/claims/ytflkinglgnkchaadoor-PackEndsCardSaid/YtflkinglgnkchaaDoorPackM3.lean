/- Plain facts: no packed text is the beginning of another one; what is cut off is told. Nothing of the program stands here. -/
import Derived.Test.YtflkinglgnkchaaDoorPackM2
namespace Go.Proofs.YtflkinglgnkchaaDoor.M
open Go.Lib

theorem pack_prefix {a b r : List UInt8} (ha : a.length < 10000000) (hb : b.length < 10000000) (h : pack b = pack a ++ r) : a = b := by
  have h1 := cut_pack a r ha
  have h2 := cut_pack b [] hb
  rw [List.append_nil, h, h1] at h2
  exact (Prod.mk.inj h2).1
theorem digs_all (l : List UInt8) (h7 : l.length ≤ 7) (h : ∀ c ∈ l, 48 ≤ c.toNat ∧ c.toNat ≤ 57) : digs l = l := by
  unfold digs
  rw [List.take_of_length_le h7]
  have := takeWhile_all (p := isDig) l [] (fun c hc => by have := h c hc; simp [isDig]; omega)
  simpa using this
theorem cut_short (l : List UInt8) (h : l.length < 10000000) (n : Nat) (hn : n < (pack l).length) : (cut ((pack l).take n)).2.2 = 10 := by
  have e : pack l = decDigits l.length ++ 58 :: (l ++ [44]) := by simp [pack, itoa_nat]
  rw [e] at hn ⊢
  have hl : (decDigits l.length).length ≤ 7 := dec_len l.length 7 (by omega) (by omega)
  have hne : (decDigits l.length) ≠ [] := dec_ne _
  have h1 := @dec_one l.length
  by_cases hc : n ≤ (decDigits l.length).length
  · rw [List.take_append_of_le_length hc]
    have hd : digs ((decDigits l.length).take n) = (decDigits l.length).take n := digs_all _ (by simp; omega) (fun c hc => dec_dig _ c (List.mem_of_mem_take hc))
    unfold cut
    simp only [hd]
    simp
  · obtain ⟨m, rfl⟩ : ∃ m, n = (decDigits l.length).length + (m + 1) := ⟨n - (decDigits l.length).length - 1, by omega⟩
    have ht : (decDigits l.length ++ 58 :: (l ++ [44])).take ((decDigits l.length).length + (m + 1)) = decDigits l.length ++ 58 :: (l ++ [44]).take m := by
      rw [List.take_append, List.take_of_length_le (by omega)]
      simp
    rw [ht]
    have hd := digs_dec l.length h ((l ++ [44]).take m)
    have hnum := num_dec l.length
    have hm : m < l.length + 1 := by simp at hn; omega
    generalize decDigits l.length = d at *
    unfold cut
    simp only [hd, hnum]
    have hdl : d.length ≠ 0 := by simpa using hne
    have a1 : List.drop (d.length + 1) d = [] := List.drop_eq_nil_of_le (by omega)
    rw [if_neg (by simp), if_neg, if_pos]
    · simp [List.drop_append, a1]; omega
    · rintro (h2 | h2 | ⟨h2, h3⟩)
      · exact h2 (by simp)
      · exact hdl h2
      · rw [List.getElem?_append_left (by omega)] at h3
        exact h1 h2 h3
theorem pack_len3 (l : List UInt8) : 3 ≤ (pack l).length := by
  have := List.length_pos_iff.2 (dec_ne l.length)
  simp [pack, itoa_nat]; omega
end Go.Proofs.YtflkinglgnkchaaDoor.M
