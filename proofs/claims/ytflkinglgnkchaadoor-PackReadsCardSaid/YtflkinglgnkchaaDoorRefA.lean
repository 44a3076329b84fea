/- The document's answer, its small parts: the digits of a number, a text, a number and a list, packed. -/
import Derived.Test.YtflkinglgnkchaaDoorPackH
import Derived.Deep.RegionWith
namespace Go.Proofs.YtflkinglgnkchaaDoor
open Go.RowKit

/-- One byte, as a text. -/
theorem conv_one (c : UInt8) (n : Int) (hn : (c.toNat : Int) = n) (w : World) (b : Nat) (h : w.cell? ⟨b, 0, none⟩ = some (.int .u8 n)) :
    (convert 47 9 (.slice (some ⟨b, 0, none⟩) 1 1)).run Tryd.prog w = .ok (.string ⟨⟨[c]⟩⟩) w := by
  refine run_convert_bytes_back (P := Tryd.prog) _ _ _ 5 ⟨b, 0, none⟩ 1 [c] Tryd.underlying47 Tryd.underlying5 Tryd.underlying9 ?_
  intro j hj
  match j, hj with
  | 0, _ => simp [Addr.add, hn, h]

set_option maxHeartbeats 1000000 in
set_option maxRecDepth 100000 in
theorem digits_small (u : Nat) (hu : u < 10) (w : World) :
    Calls Tryd.prog 32 #[.int .i64 u] w fun e w' => e = .returned (.string ⟨⟨Lib.decDigits u⟩⟩) ∧ Old w w' := by
  rw [M.dec_small hu]
  have hc := M.ofNat_toNat hu
  generalize UInt8.ofNat (48 + u) = c at *
  have hconv := conv_one c (48 + u) (by omega)
  clear hc
  go_enter Tryd.func32, Tryd.ntmps32
  go_wp2
  go_ret
  exact ⟨rfl, Old.alloc _ _⟩

set_option maxHeartbeats 2000000 in
set_option maxRecDepth 100000 in
theorem digits_big (u : Nat) (hu : ¬ u < 10) (hmax : (u : Int) ≤ 9223372036854775807)
    (ih : ∀ w : World, Calls Tryd.prog 32 #[.int .i64 ((u / 10 : Nat) : Int)] w fun e w' => e = .returned (.string ⟨⟨Lib.decDigits (u / 10)⟩⟩) ∧ Old w w') (w : World) :
    Calls Tryd.prog 32 #[.int .i64 u] w fun e w' => e = .returned (.string ⟨⟨Lib.decDigits u⟩⟩) ∧ Old w w' := by
  have hc := M.ofNat_toNat (d := u % 10) (by omega)
  rw [M.dec_big hu]
  have hl := M.dec_len (u / 10) 19 (by omega) (by omega)
  generalize UInt8.ofNat (48 + u % 10) = c at *
  generalize Lib.decDigits (u / 10) = d at *
  have hconv := conv_one c (48 + (u : Int) % 10) (by omega)
  have hu' : 10 ≤ u := by omega
  have hq : ((u / 10 : Nat) : Int) = (u : Int) / 10 := by omega
  rw [hq] at ih
  have HI := Lib.hid ih
  have w1 : IntKind.i64.wrap ((u : Int) / 10) = (u : Int) / 10 := IntWalk.i64_in _ (by omega)
  have w2 : (u : Int).tmod 10 = (u : Int) % 10 := Int.tmod_eq_emod_of_nonneg (by omega)
  have w3 : IntKind.i64.wrap (48 + (u : Int) % 10) = 48 + (u : Int) % 10 := IntWalk.i64_in _ (by omega)
  have w4 : IntKind.u8.wrap (48 + (u : Int) % 10) = 48 + (u : Int) % 10 := IntWalk.u8_in _ (by omega)
  clear ih hu hc hq
  go_enter Tryd.func32, Tryd.ntmps32
  go_wp2
  go_region_with ((with_reducible refine (HI.out _).mono ?_); rintro e w' ⟨rfl, ho⟩; try (have hcell : w'.cell? ⟨w.heap.size, 0, none⟩ = some (.int .u8 (48 + (u : Int) % 10)) := (Blk.old (show Blk ((w.alloc (.cells #[.int .u8 (48 + (u : Int) % 10)] 5)).drew) w.heap.size #[.int .u8 (48 + (u : Int) % 10)] 5 from Blk.new _ _ _) ho).cellN 0 rfl))
  all_goals
    go_wp2
    go_ret
    first
      | exact ⟨ret_str (ba_eq (by simp)), ((Below.drew (Below.refl _ w)).trans ho).trans ((Old.alloc w' _).mono ho.size)⟩
      | exact ⟨ret_str (ba_eq (by simp)), (Below.drew (Old.alloc w (.cells #[.int .u8 (48 + (u : Int) % 10)] 5))).trans (ho.mono (by simp))⟩

theorem digits_pos (u : Nat) : (u : Int) ≤ 9223372036854775807 → ∀ w : World,
    Calls Tryd.prog 32 #[.int .i64 u] w fun e w' => e = .returned (.string ⟨⟨Lib.decDigits u⟩⟩) ∧ Old w w' := by
  refine M.dec_ind (p := fun u => (u : Int) ≤ 9223372036854775807 → ∀ w : World, Calls Tryd.prog 32 #[.int .i64 u] w fun e w' => e = .returned (.string ⟨⟨Lib.decDigits u⟩⟩) ∧ Old w w') ?_ ?_ u
  · intro u hu _ w
    exact digits_small u hu w
  · intro u hu ih hmax w
    exact digits_big u hu hmax (ih (by omega)) w

/-- The digits ahead of what stands. -/
def headD (m : Nat) : List UInt8 := if m = 0 then [] else Lib.decDigits m
theorem headD_step {m : Nat} (h : m ≠ 0) : headD m = headD (m / 10) ++ [UInt8.ofNat (48 + m % 10)] := by
  unfold headD
  rw [if_neg h]
  by_cases h10 : m < 10
  · rw [M.dec_small h10, if_pos (by omega), Nat.mod_eq_of_lt h10]; rfl
  · rw [M.dec_big h10, if_neg (by omega)]

set_option maxHeartbeats 2000000 in
set_option maxRecDepth 100000 in
theorem digits_neg (u : Nat) (h0 : 0 < u) (hmax : (u : Int) ≤ 9223372036854775808) (w : World) :
    Calls Tryd.prog 32 #[.int .i64 (-(u : Int))] w fun e w' => e = .returned (.string ⟨⟨45 :: Lib.decDigits u⟩⟩) ∧ Old w w' := by
  have hlen := M.dec_len u 20 (by omega) (by omega)
  have hd : headD u = Lib.decDigits u := by unfold headD; rw [if_neg (by omega)]
  generalize Lib.decDigits u = D at *
  have HD := Lib.hid hd
  clear hd
  go_enter Tryd.func32, Tryd.ntmps32
  go_wp2
  go_loopw [0, 3] (fun n s wr => ∃ (m : Nat) (d : List UInt8), n = .int .i64 (-(m : Int)) ∧ s = .string ⟨⟨d⟩⟩ ∧ headD m ++ d = D ∧ m ≤ u ∧ Old w wr) (fun n _ _ => (intOf n).natAbs)
  case atStart => exact ⟨u, [], rfl, rfl, by rw [HD.out]; simp, Nat.le_refl _, Below.refl _ _⟩
  case round =>
    obtain ⟨m, d, rfl, rfl, hD, hm, ho⟩ := hrel
    have hdl : d.length ≤ 20 := by rw [← hD] at hlen; simp at hlen; omega
    by_cases hz : m = 0
    · subst hz
      have hD' : d = D := by simpa [headD] using hD
      subst hD'
      clear hD
      go_wp2
      go_ret
      exact ⟨ret_str (ba_eq (by simp)), ho⟩
    · have hc := M.ofNat_toNat (d := m % 10) (by omega)
      rw [headD_step hz] at hD
      generalize UInt8.ofNat (48 + m % 10) = c at *
      have HD2 := Lib.hid hD
      clear hD
      have hconv := conv_one c (48 - -((m : Int) % 10)) (by omega)
      have hne : ((-(m : Int)) != 0) = true := by rw [bne_iff_ne]; omega
      clear hc
      go_wp2
      go_roundw
      case rel => exact ⟨m / 10, c :: d, by congr 1, congrArg Value.string (ba_eq (by simp)), by rw [← HD2.out]; simp, by omega, Below.trans ho ((Old.alloc wr _).mono ho.size)⟩
      case measure => simp [intOf]; omega

theorem digits_any (n : Int) (h0 : -9223372036854775808 ≤ n) (h1 : n ≤ 9223372036854775807) (w : World) :
    Calls Tryd.prog 32 #[.int .i64 n] w fun e w' => e = .returned (.string ⟨⟨Lib.itoa n⟩⟩) ∧ Old w w' := by
  unfold Lib.itoa
  by_cases h : n < 0
  · rw [if_pos h]
    have e : n = -((n.natAbs : Nat) : Int) := by omega
    have := digits_neg n.natAbs (by omega) (by omega) w
    rw [← e] at this
    exact this
  · rw [if_neg h]
    have e : n = ((n.toNat : Nat) : Int) := by omega
    have := digits_pos n.toNat (by omega) w
    rw [← e] at this
    exact this

set_option maxHeartbeats 400000 in
theorem rtext_any (s : ByteArray) (w : World) (hs : s.size ≤ 9223372036854775000) :
    Calls Tryd.prog 12 #[.string s] w fun e w' => e = .returned (.string ⟨⟨M.pack s.data.toList⟩⟩) ∧ Old w w' := by
  have hl := M.itoa_len20 (s.size : Int) (by omega) (by omega)
  have HI := Lib.hid (digits_any (s.size : Int) (by omega) (by omega) w)
  have hp : M.pack s.data.toList = Lib.itoa (s.size : Int) ++ 58 :: s.data.toList ++ [44] := by
    have : ((s.data.toList.length : Nat) : Int) = s.size := by simp
    simp only [M.pack, this]
  rw [hp]
  generalize Lib.itoa (s.size : Int) = it at *
  clear hp
  go_enter Tryd.func12, Tryd.ntmps12
  go_wp2_with ((with_reducible refine HI.out.mono ?_); rintro e w' ⟨rfl, ho⟩)
  go_ret
  exact ⟨ret_str (ba_eq (by simp)), ho⟩

set_option maxHeartbeats 400000 in
theorem refnum_any (n : Int) (h0 : -9223372036854775808 ≤ n) (h1 : n ≤ 9223372036854775807) (w : World) :
    Calls Tryd.prog 15 #[.int .i64 n] w fun e w' => e = .returned (.string ⟨⟨M.pack (Lib.itoa n)⟩⟩) ∧ Old w w' := by
  have hl := M.itoa_len20 n h0 h1
  have HI := Lib.hid (digits_any n h0 h1 w)
  have HT := Lib.hid (fun w1 => rtext_any ⟨⟨Lib.itoa n⟩⟩ w1 (Nat.le_trans (show (Lib.itoa n).length ≤ 20 from hl) (by decide)))
  go_enter Tryd.func15, Tryd.ntmps15
  go_wp2_with (first | ((with_reducible refine HI.out.mono ?_); rintro e w' ⟨rfl, ho⟩) | ((with_reducible refine (HT.out _).mono ?_); rintro e w2 ⟨rfl, ho2⟩))
  go_ret
  exact ⟨rfl, ho.trans ho2⟩
end Go.Proofs.YtflkinglgnkchaaDoor
