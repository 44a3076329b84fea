/- The reader's next number. -/
import Derived.Test.YtflkinglgnkchaaDoorPackE
import Derived.Test.YtflkinglgnkchaaDoorErr
namespace Go.Proofs.YtflkinglgnkchaaDoor
open Go.RowKit

/-- What the next number is, and the reader behind it. -/
def numS (r : List UInt8 × Int) : Int × (List UInt8 × Int) :=
  if (nextS r).2.1 = false then (0, (nextS r).2.2) else match M.parse (nextS r).1 with
    | some v => (v, (nextS r).2.2)
    | none => (0, ([], 11))

theorem cut_len (l : List UInt8) : (M.cut l).1.length ≤ l.length ∧ (M.cut l).2.1.length ≤ l.length := by
  unfold M.cut
  simp only
  split
  · simp
  · split
    · simp
    · split
      · simp
      · split
        · simp
        · simp; omega
theorem nextS_len (r : List UInt8 × Int) : (nextS r).1.length ≤ r.1.length ∧ (nextS r).2.2.1.length ≤ r.1.length := by
  unfold nextS
  split
  · simp
  · split
    · simp
    · exact cut_len r.1

set_option maxHeartbeats 400000 in
theorem rnum_nil (w : World) :
    Calls Tryd.prog 23 #[.pointer none] w fun e w' => e = .returned (.int .i64 0) ∧ w' = w := by
  go_enter Tryd.func23, Tryd.ntmps23
  go_wp2_with ((with_reducible refine (next_nil _).mono ?_); rintro e w' ⟨rfl, rfl⟩)
  go_ret
  exact ⟨rfl, rfl⟩

set_option maxHeartbeats 1000000 in
theorem rnum_any (b : Nat) (r : List UInt8 × Int) (w : World) (h : Rd w b r) (hs : r.1.length ≤ 281474976710656) (ht : Tab w) (he : Errs w) (hb1 : b ≠ 2) (hb2 : b ≠ 0) (hb3 : b ≠ 1) :
    Calls Tryd.prog 23 #[.pointer (some ⟨b, 0, none⟩)] w fun e w' => e = .returned (.int .i64 (numS r).1) ∧ Rd w' b (numS r).2 ∧ Keep (· = b) w w' := by
  have hlen := nextS_len r
  have hN := next_any b r w h (by unfold maxLen; omega)
  unfold numS
  generalize hn : nextS r = n at *
  obtain ⟨t, ok, r'⟩ := n
  simp only at hlen hN ⊢
  clear hn
  have HN := Lib.hid hN
  clear hN
  have HA := Lib.hid (fun w1 (k1 : Keep (· = b) w w1) => atoi_any ⟨⟨t⟩⟩ (Nat.le_trans hlen.1 hs) w1 (he.keep k1 (fun e => hb2 e.symm) (fun e => hb3 e.symm)))
  cases ok with
  | false =>
    go_enter Tryd.func23, Tryd.ntmps23
    go_wp2_with ((with_reducible refine HN.out.mono ?_); rintro e w1 ⟨rfl, h1, k1⟩)
    go_ret
    exact ⟨by simp, by simpa using h1, k1⟩
  | true =>
    have fin : ∀ x : Int × (List UInt8 × Int), x = (match M.parse t with | some v => (v, r') | none => (0, ([], 11))) →
        Calls Tryd.prog 23 #[.pointer (some ⟨b, 0, none⟩)] w fun e w' => e = .returned (.int .i64 x.1) ∧ Rd w' b x.2 ∧ Keep (· = b) w w' := by
      intro x hx
      cases hp : M.parse t with
      | some v =>
        rw [hp] at hx
        subst hx
        obtain ⟨hi, hv0, hv1, hv⟩ := M.parse_some hp
        have HI := Lib.hid (fun w1 (k1 : Keep (· = b) w w1) w3 (o3 : Old w1 w3) => itoa_any v hv0 hv1 w3 ((ht.keep k1 (fun e => hb1 e.symm)).old o3))
        subst hi
        have HV := Lib.hid hv
        clear hv hp
        go_enter Tryd.func23, Tryd.ntmps23
        go_wp2_with ((with_reducible refine HN.out.mono ?_); rintro e w1 ⟨rfl, h1, k1⟩)
        refine (HA.out w1 k1).mono ?_
        rintro e w2 ⟨o2, ⟨v', hv', rfl⟩ | ⟨hno, v', T, p, rfl⟩⟩
        · obtain rfl : v = v' := by have := HV.out.symm.trans hv'; injection this
          clear hv'
          have hr2 : Rd w2 b r' := h1.old o2
          go_wp2_with ((with_reducible refine (HI.out _ k1 _ o2).mono ?_); rintro e w3 ⟨rfl, o3⟩)
          go_ret
          exact ⟨rfl, hr2.old o3, (k1.trans (Keep.of_old o2)).trans (Keep.of_old o3)⟩
        · exact absurd HV.out (hno v)
      | none =>
        rw [hp] at hx
        subst hx
        have HF := Lib.hid (fun w3 (h3 : Rd w3 b r') => fail_any b ⟨⟨r'.1⟩⟩ r'.2 11 w3 h3)
        have HNO := Lib.hid (fun v (hv : Lib.atoiAll t = .ok v) => (M.parse_none hp v (Lib.atoiAll_bounds hv).1 (Lib.atoiAll_bounds hv).2))
        clear hp
        go_enter Tryd.func23, Tryd.ntmps23
        go_wp2_with ((with_reducible refine HN.out.mono ?_); rintro e w1 ⟨rfl, h1, k1⟩)
        refine (HA.out w1 k1).mono ?_
        rintro e w2 ⟨o2, ⟨v, hv, rfl⟩ | ⟨hno, v', T, p, rfl⟩⟩
        · have hbd := Lib.atoiAll_bounds hv
          have hi := HNO.out v hv
          clear hv
          have HI := Lib.hid (fun w3 (o3 : Old w1 w3) => itoa_any v hbd.1 hbd.2 w3 ((ht.keep k1 (fun e => hb1 e.symm)).old o3))
          have hr2 : Rd w2 b r' := h1.old o2
          have hne : (Lib.itoa v == t) = false := by simpa using hi
          have hne2 : (!(Lib.itoa v == t)) = true := by simpa using hi
          clear hi
          go_wp2_with (first | ((with_reducible refine (HI.out _ o2).mono ?_); rintro e w3 ⟨rfl, o3⟩) | ((with_reducible refine (HF.out _ (hr2.old o3)).mono ?_); rintro e w4 ⟨rfl, h4, k4⟩))
          go_ret
          exact ⟨rfl, h4, ((k1.trans (Keep.of_old o2)).trans (Keep.of_old o3)).trans k4⟩
        · have hr2 : Rd w2 b r' := h1.old o2
          clear hno
          go_wp2_with ((with_reducible refine (HF.out _ hr2).mono ?_); rintro e w4 ⟨rfl, h4, k4⟩)
          go_ret
          exact ⟨rfl, h4, (k1.trans (Keep.of_old o2)).trans k4⟩
    exact fin _ (by simp)
end Go.Proofs.YtflkinglgnkchaaDoor
