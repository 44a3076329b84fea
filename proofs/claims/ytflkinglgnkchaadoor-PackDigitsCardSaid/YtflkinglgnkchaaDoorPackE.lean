/- What a list is, packed. -/
import Derived.Test.YtflkinglgnkchaaDoorPackD
import Derived.Test.YtflkinglgnkchaaDoorBld
namespace Go.Proofs.YtflkinglgnkchaaDoor
open Go.RowKit

abbrev vstr (s : List UInt8) : Value := .string ⟨⟨s⟩⟩

set_option maxHeartbeats 1000000 in
theorem plist_any (v : Value) (l : List (List UInt8)) (B0 : Nat) (w : World) (ht : Tab w) (hv : Sl B0 w v (l.map vstr)) (hB0 : B0 ≤ w.heap.size) (hl : l.length ≤ maxLen) (hsum : (M.packs l).length ≤ 140737488355328)
    (heach : ∀ s, s ∈ l → s.length ≤ 9223372036854775000) :
    Calls Tryd.prog 17 #[v] w fun e w' => e = .returned (.string ⟨⟨M.pack (M.packs l)⟩⟩) ∧ Old w w' := by
  unfold maxLen at hl
  obtain ⟨p, cap, rfl, _, hx⟩ := hv
  have hlen : (l.map vstr).length = l.length := by simp
  rw [hlen] at hx ⊢
  have hnew := Bld.fresh w w.heap.size (Nat.le_refl _)
  go_enter Tryd.func17, Tryd.ntmps17
  go_wp2
  go_loopw [8] (fun i wr => ∃ k : Nat, k ≤ l.length ∧ i = .int .i64 k ∧ Bld wr w.heap.size w.heap.size (M.packs (l.take k)) ∧ Old w wr) (fun i _ => l.length - (intOf i).toNat)
  case atStart => exact ⟨0, Nat.zero_le _, rfl, hnew, Old.alloc _ _⟩
  case round =>
    obtain ⟨k, hk, rfl, hb, ho⟩ := hrel
    by_cases hlt : k < l.length
    · obtain ⟨b, off, rfl, hbB, hc⟩ := hx (by intro h; have := congrArg List.length h; simp at this; subst this; simp at hlt)
      have hc0 := hc k hlt
      have hcell : wr.cell? ⟨b, off + k, none⟩ = some (.string ⟨⟨l[k]⟩⟩) := by
        rw [ho.cell (p := ⟨b, off + k, none⟩) (by show b < _; omega), hc0]; simp [hlt]
      clear hc hc0 hx hnew
      have hk1 : l.take (k + 1) = l.take k ++ [l[k]] := List.take_succ_eq_append_getElem hlt
      have hp1 : M.packs (l.take (k + 1)) = M.packs (l.take k) ++ M.pack l[k] := by rw [hk1, M.packs_snoc]
      have hle := M.packs_take l (k + 1)
      rw [hp1, List.length_append] at hle
      have he := heach l[k] (List.getElem_mem _)
      have HP := Lib.hid hp1
      clear hk1 hp1
      have HT := Lib.hid (ptext_any ⟨⟨l[k]⟩⟩ wr (ht.old ho) he)
      have hsz := ho.size
      have HW := Lib.hid (fun w1 (h1 : Old wr w1) => writeString_any w.heap.size w.heap.size (M.packs (l.take k)) ⟨⟨M.pack l[k]⟩⟩ w1 (hb.old h1) (Nat.le_trans hle hsum) (Nat.le_trans hsz h1.size))
      go_wp2_with (first
        | ((with_reducible refine HT.out.mono ?_); rintro e w1 ⟨rfl, ho1⟩)
        | ((with_reducible refine (HW.out _ ho1).mono ?_); rintro e w2 ⟨rfl, hb2, ho2, _⟩))
      go_roundw
      case rel => exact ⟨k + 1, by omega, by go_num, by rw [HP.out]; exact hb2, (Below.trans ho (ho1.mono hsz)).trans ho2⟩
      case measure => simp [intOf]; omega
    · obtain rfl : k = l.length := by omega
      rw [List.take_length] at hb
      have hsz := ho.size
      have HS := Lib.hid (bstring_any w.heap.size w.heap.size _ _ hb hsz)
      have HT := Lib.hid (fun w1 (h1 : Below w.heap.size wr w1) => ptext_any ⟨⟨M.packs l⟩⟩ w1 (ht.old (Below.trans ho h1)) (Nat.le_trans (show (M.packs l).length ≤ _ from hsum) (by decide)))
      clear hb hx hnew
      go_wp2_with (first
        | ((with_reducible refine HS.out.mono ?_); rintro e w1 ⟨rfl, _, ho1, _⟩)
        | ((with_reducible refine (HT.out _ ho1).mono ?_); rintro e w2 ⟨rfl, ho2⟩))
      go_ret
      exact ⟨rfl, (Below.trans ho ho1).trans (ho2.mono (Nat.le_trans hsz ho1.size))⟩
end Go.Proofs.YtflkinglgnkchaaDoor
