/- The document's reader: its next number. -/
import Derived.Test.YtflkinglgnkchaaDoorRefC
import Derived.Test.YtflkinglgnkchaaDoorRefM
namespace Go.Proofs.YtflkinglgnkchaaDoor
open Go.RowKit

/-- What the reckoning of a number answers. -/
def NumPost (l : List UInt8) (w : World) (e : Ending) (w' : World) : Prop := (∃ n b, e = .returned (.tuple #[.int .i64 n, .bool b]) ∧ M.NumRes l n b) ∧ Old w w'
theorem NumPost.no {l : List UInt8} {w w' : World} (h : ∀ v, Lib.itoa v = l → -9223372036854775808 ≤ v → v ≤ 9223372036854775807 → False) (ho : Old w w') : NumPost l w (.returned (.tuple #[.int .i64 0, .bool false])) w' :=
  ⟨⟨0, false, rfl, M.NumRes.no h⟩, ho⟩

theorem over_iff {m c : Nat} (h0 : 48 ≤ c) (h1 : c ≤ 57) : -(m : Int) < (-9223372036854775808 + ((c : Int) - 48)).tdiv 10 ↔ 9223372036854775808 < m * 10 + (c - 48) := by
  have e : (-9223372036854775808 + ((c : Int) - 48)) = -(9223372036854775808 - ((c : Int) - 48)) := by omega
  rw [e, Int.neg_tdiv, Int.tdiv_eq_ediv_of_nonneg (by omega)]
  omega

set_option maxHeartbeats 4000000 in
set_option maxRecDepth 100000 in
theorem number_any (s : ByteArray) (w : World) (hs : s.size ≤ maxLen) :
    Calls Tryd.prog 39 #[.string s] w (NumPost s.data.toList w) := by
  unfold maxLen at hs
  have hz : s.data.toList.length = s.size := by simp
  by_cases h0 : s.size = 0
  · have hno : ∀ v, Lib.itoa v = s.data.toList → -9223372036854775808 ≤ v → v ≤ 9223372036854775807 → False := by
      intro v hv _ _
      have := M.itoa_ne v
      rw [hv] at this
      exact this (List.eq_nil_of_length_eq_zero (by omega))
    have HNO := Lib.hid hno
    clear hno
    go_enter Tryd.func39, Tryd.ntmps39
    go_wp2
    go_ret2
    exact NumPost.no HNO.out (Below.refl _ _)
  · have hpos : 0 < s.size := by omega
    have hpos2 : (0 : Int) < s.size := by omega
    have hhead : s.data.toList.head? = some s[0] := by
      rw [List.head?_eq_getElem?, List.getElem?_eq_getElem (by omega)]; rfl
    have hbody : (s[0].toNat = 45 → s.extract 1 s.size = ⟨⟨M.body s.data.toList⟩⟩) ∧ (s[0].toNat ≠ 45 → s = ⟨⟨M.body s.data.toList⟩⟩) := by
      constructor
      · intro h
        refine ba_eq ?_
        unfold M.body
        rw [hhead, if_pos (by rw [show s[0] = 45 from UInt8.toNat_inj.1 h])]
        simp only [ByteArray.data_extract, Array.toList_extract, List.extract_eq_take_drop]
        rw [List.drop_one]
        exact List.take_of_length_le (by simp)
      · intro h
        refine ba_eq ?_
        unfold M.body
        rw [hhead, if_neg (by intro h'; exact h (by rw [Option.some.inj h']; rfl))]
    have HBODY := Lib.hid hbody
    have hblen : (M.body s.data.toList).length ≤ s.size := by
      unfold M.body; split
      · simp
      · omega
    have HISN := Lib.hid (fun v (h : Lib.itoa v = s.data.toList) h0 h1 => M.is_num h h0 h1)
    have hF : ((M.body s.data.toList).length = s.size → s.data.toList.head? ≠ some 45) ∧ ((M.body s.data.toList).length ≠ s.size → s.data.toList.head? = some 45) := by
      unfold M.body
      by_cases h : s.data.toList.head? = some 45
      · rw [if_pos h, List.length_tail]
        exact ⟨fun h' => by omega, fun _ => h⟩
      · rw [if_neg h]
        exact ⟨fun _ => h, fun h' => absurd hz h'⟩
    have HF := Lib.hid hF
    clear hbody hhead hF
    generalize M.body s.data.toList = d at *
    go_enter Tryd.func39, Tryd.ntmps39
    go_upto_if 16 with (fail)
    go_cut [4] (fun x wx => x = .string ⟨⟨d⟩⟩ ∧ wx = w)
    case first =>
      by_cases h45 : s[0].toNat = 45
      · have b45 : ((s[0].toNat : Int) == 45) = true := by simp [h45]
        have HE := Lib.hid (HBODY.out.1 h45)
        clear h45
        go_wp2
        go_meet
        case rel => exact ⟨by rw [HE.out], rfl⟩
      · have b45 : ((s[0].toNat : Int) == 45) = false := by rw [beq_eq_false_iff_ne]; omega
        have HE := Lib.hid (HBODY.out.2 h45)
        clear h45
        go_wp2
        go_meet
        case rel => exact ⟨congrArg Value.string HE.out, rfl⟩
    case rest =>
      obtain ⟨rfl, rfl⟩ := hcut
      clear HBODY
      by_cases hd : d.length = 0 ∨ 19 < d.length
      · have hno : ∀ v, Lib.itoa v = s.data.toList → -9223372036854775808 ≤ v → v ≤ 9223372036854775807 → False := by
          intro v hv a1 a2
          obtain ⟨_, _, h3, h4, _⟩ := HISN.out v hv a1 a2
          rcases hd with hd | hd
          · exact h3 (List.eq_nil_of_length_eq_zero hd)
          · omega
        have HNO := Lib.hid hno
        clear hno
        rcases hd with hd | hd
        · have hd1 : (((⟨⟨d⟩⟩ : ByteArray).size : Int) == 0) = true := by show ((d.length : Int) == 0) = true; simp [hd]
          go_wp2
          go_ret2
          exact NumPost.no HNO.out (Below.refl _ _)
        · have hd1 : (19 : Int) < ((⟨⟨d⟩⟩ : ByteArray).size : Int) := by show (19 : Int) < (d.length : Int); omega
          have hd2 : ¬ d = [] := by rintro rfl; simp at hd
          go_wp2
          go_ret2
          exact NumPost.no HNO.out (Below.refl _ _)
      · have hd0 : d.length ≠ 0 := fun h => hd (Or.inl h)
        have hd19 : d.length ≤ 19 := by omega
        have hd1 : (d.length : Int) ≤ 19 := by omega
        have hd3 : ((d.length : Int) == 0) = false := by rw [beq_eq_false_iff_ne]; omega
        have hd2 : ¬ d = [] := by rintro rfl; simp at hd0
        clear hd
        go_wp2
        go_loop [5, 6] (fun n i => ∃ k : Nat, k ≤ d.length ∧ i = .int .i64 k ∧ n = .int .i64 (-(M.num (d.take k) : Int)) ∧ M.num (d.take k) ≤ 9223372036854775808) (fun _ i => d.length - (intOf i).toNat)
        case atStart => exact ⟨0, Nat.zero_le _, rfl, by simp [M.num], by simp [M.num]⟩
        case round =>
          obtain ⟨k, hk, rfl, rfl, hbd⟩ := hrel
          by_cases hlt : k < d.length
          · have hlt2 : k < (⟨⟨d⟩⟩ : ByteArray).size := hlt
            have hx : (⟨⟨d⟩⟩ : ByteArray)[k] = d[k] := rfl
            have hstep := M.num_dig_bound hlt
            have hno : (d[k].toNat < 48 ∨ 57 < d[k].toNat ∨ 9223372036854775808 < M.num (d.take (k + 1))) → ∀ v, Lib.itoa v = s.data.toList → -9223372036854775808 ≤ v → v ≤ 9223372036854775807 → False := by
              intro hbad v hv a1 a2
              obtain ⟨h1, h2, _, _, _⟩ := HISN.out v hv a1 a2
              have h3 := h1 d[k] (List.getElem_mem _)
              have h4 := M.num_take_le d (k + 1)
              omega
            have HNO := Lib.hid hno
            have HSTEP := Lib.hid hstep
            clear hno hstep HISN
            generalize M.num (d.take k) = m at *
            generalize hm' : M.num (d.take (k + 1)) = m' at *
            have HM := Lib.hid hm'
            clear hm'
            have hcb : d[k].toNat < 256 := UInt8.toNat_lt _
            by_cases c1 : d[k].toNat < 48
            · have HN := Lib.hid (HNO.out (Or.inl c1))
              clear HNO HSTEP
              go_wp2
              go_ret2
              exact NumPost.no HN.out (Below.refl _ _)
            · by_cases c2 : 57 < d[k].toNat
              · have HN := Lib.hid (HNO.out (Or.inr (Or.inl c2)))
                clear HNO HSTEP
                go_wp2
                go_ret2
                exact NumPost.no HN.out (Below.refl _ _)
              · have ht := over_iff (m := m) (c := d[k].toNat) (by omega) (by omega)
                by_cases c3 : 9223372036854775808 < m'
                · have c4 : -(m : Int) < (-9223372036854775808 + ((d[k].toNat : Int) - 48)).tdiv 10 := ht.2 (by have := HSTEP.out; omega)
                  have HN := Lib.hid (HNO.out (Or.inr (Or.inr c3)))
                  clear HNO HSTEP ht c3
                  go_wp2
                  go_ret2
                  exact NumPost.no HN.out (Below.refl _ _)
                · have c4 : (-9223372036854775808 + ((d[k].toNat : Int) - 48)).tdiv 10 ≤ -(m : Int) := by
                    have h : ¬ (-(m : Int) < (-9223372036854775808 + ((d[k].toNat : Int) - 48)).tdiv 10) := fun h => by have := ht.1 h; have := HSTEP.out; omega
                    omega
                  have c5 : 10 * (m : Int) + ((d[k].toNat : Int) - 48) ≤ 9223372036854775808 := by have := HSTEP.out; omega
                  clear HNO ht
                  go_wp2
                  go_round
                  case rel =>
                    refine ⟨k + 1, by omega, by go_num, ?_, ?_⟩
                    · rw [HM.out]
                      have := HSTEP.out
                      congr 1; omega
                    · rw [HM.out]; omega
                  case measure => simp [intOf]; omega
          · obtain rfl : k = d.length := by omega
            rw [List.take_length] at hbd ⊢
            have HISN2 := HISN.out
            have hv : ∀ v, Lib.itoa v = s.data.toList → -9223372036854775808 ≤ v → v ≤ 9223372036854775807 → M.num d = v.natAbs ∧ (s.data.toList.head? = some 45 ↔ v < 0) := fun v h a1 a2 => ⟨(HISN2 v h a1 a2).2.1, (HISN2 v h a1 a2).2.2.2.2⟩
            have HV := Lib.hid hv
            clear hv HISN HISN2
            generalize M.num d = m at *
            have go : ∀ n : Int, -9223372036854775808 ≤ n → n ≤ 9223372036854775807 → n.natAbs = m → (s.data.toList.head? = some 45 ↔ n < 0 ∨ (m = 0 ∧ s.data.toList.head? = some 45)) → ∀ e w', (e = Ending.returned (.tuple #[.int .i64 n, .bool (Lib.itoa n == s.toList)]) ∧ Old wc w') → NumPost s.data.toList wc e w' := by
              rintro n a1 a2 a3 a4 e w' ⟨rfl, ho⟩
              refine ⟨⟨n, _, rfl, ?_⟩, ho⟩
              rw [ByteArray.toList_eq]
              by_cases hi : Lib.itoa n = s.data.toList
              · have hb : (Lib.itoa n == s.data.toList) = true := by simpa using hi
                rw [hb]
                exact M.NumRes.yes a1 a2 hi
              · have hb : (Lib.itoa n == s.data.toList) = false := by simpa using hi
                rw [hb]
                refine M.NumRes.no (fun v h b1 b2 => hi ?_)
                obtain ⟨h1, h2⟩ := HV.out v h b1 b2
                have : v = n := by
                  by_cases hs : s.data.toList.head? = some 45
                  · have := h2.1 hs
                    rcases a4.1 hs with h3 | ⟨h3, _⟩
                    · omega
                    · omega
                  · have g1 : ¬ v < 0 := fun h => hs (h2.2 h)
                    have g2 : ¬ n < 0 := fun h => hs (a4.2 (Or.inl h))
                    omega
                rw [← this]; exact h
            have GO := Lib.hid go
            have HD := Lib.hid (fun (n : Int) a1 a2 => digits_any n a1 a2 wc)
            clear go
            by_cases hls : d.length = s.size
            · have hh := HF.out.1 hls
              by_cases hm : m = 9223372036854775808
              · have HNO := Lib.hid (show ∀ v, Lib.itoa v = s.data.toList → -9223372036854775808 ≤ v → v ≤ 9223372036854775807 → False from fun v h a1 a2 => by
                  obtain ⟨h1, h2⟩ := HV.out v h a1 a2
                  have : ¬ v < 0 := fun h => hh (h2.2 h)
                  omega)
                have hmi : ((-(m : Int)) == -9223372036854775808) = true := by rw [beq_iff_eq]; omega
                have hls2 : ((d.length : Int) == (s.size : Int)) = true := by rw [beq_iff_eq]; omega
                clear GO HD HV hh hm
                go_wp2
                go_ret2
                exact NumPost.no HNO.out (Below.refl _ _)
              · have hmi : ((-(m : Int)) == -9223372036854775808) = false := by rw [beq_eq_false_iff_ne]; omega
                have hls2 : ((d.length : Int) == (s.size : Int)) = true := by rw [beq_iff_eq]; omega
                have hm2 : (m : Int) ≤ 9223372036854775807 := by omega
                have G := Lib.hid (GO.out (m : Int) (by omega) (by omega) (by omega) ⟨fun h => absurd h hh, fun h => by rcases h with h | ⟨_, h⟩; omega; exact h⟩)
                have D := Lib.hid (HD.out (m : Int) (by omega) (by omega))
                clear GO HD HV hh hm hls
                go_wp2_with ((with_reducible refine D.out.mono ?_); rintro e w2 ⟨rfl, o2⟩)
                go_ret2
                exact G.out _ _ ⟨rfl, o2⟩
            · have hh := HF.out.2 hls
              have hls2 : ((d.length : Int) == (s.size : Int)) = false := by rw [beq_eq_false_iff_ne]; omega
              have hm2 : (m : Int) ≤ 9223372036854775808 := by omega
              have G := Lib.hid (GO.out (-(m : Int)) (by omega) (by omega) (by omega) ⟨fun h => by rcases Nat.eq_zero_or_pos m with h0 | h0; exact Or.inr ⟨h0, h⟩; exact Or.inl (by omega), fun _ => hh⟩)
              have D := Lib.hid (HD.out (-(m : Int)) (by omega) (by omega))
              clear GO HD HV hh hls
              go_wp2_with ((with_reducible refine D.out.mono ?_); rintro e w2 ⟨rfl, o2⟩)
              go_ret2
              exact G.out _ _ ⟨rfl, o2⟩

/-- What the document's next number is, and its reader behind it. -/
def rnumS (r : List UInt8 × Int) : Int × (List UInt8 × Int) :=
  if (rtextS r).2.2 ≠ 0 then (0, (rtextS r).2) else match M.parse (rtextS r).1 with
    | some v => (v, (rtextS r).2)
    | none => (0, ((rtextS r).2.1, 11))

theorem rtextS_len (r : List UInt8 × Int) : (rtextS r).1.length ≤ r.1.length ∧ (rtextS r).2.1.length ≤ r.1.length := by
  unfold rtextS
  split
  · simp
  · split
    · simp
    · exact cut_len r.1

set_option maxHeartbeats 1000000 in
theorem rrnum_any (b : Nat) (r : List UInt8 × Int) (w : World) (h : Rr w b r) (hs : r.1.length ≤ maxLen) :
    Calls Tryd.prog 24 #[.pointer (some ⟨b, 0, none⟩)] w fun e w' => e = .returned (.int .i64 (rnumS r).1) ∧ Rr w' b (rnumS r).2 ∧ Keep (· = b) w w' := by
  have hlen := rtextS_len r
  have HN := Lib.hid (rtext_any' b r w h hs)
  unfold rnumS
  generalize rtextS r = x at *
  obtain ⟨t, l, y⟩ := x
  simp only at hlen ⊢
  have HA := Lib.hid (fun w1 => number_any ⟨⟨t⟩⟩ w1 (Nat.le_trans hlen.1 hs))
  by_cases hy : y = 0
  · subst hy
    simp only [ne_eq, not_true_eq_false, if_false]
    generalize hX : (match M.parse t with | some v => (v, (l, (0 : Int))) | none => (0, (l, 11)) : Int × (List UInt8 × Int)) = X
    have HX := Lib.hid hX
    clear hX
    go_enter Tryd.func24, Tryd.ntmps24
    go_wp2_with fail
    refine HN.out.mono ?_
    rintro e w1 ⟨rfl, h1, k1⟩
    have c1 := Blk.cellN h1 1 rfl
    have f1 := Blk.free h1 1
    go_wp2_with fail
    refine (HA.out w1).mono ?_
    rintro e w2 ⟨⟨n, ok, rfl, hres⟩, o2⟩
    have h2 : Rr w2 b (l, 0) := h1.old o2
    have c2 := Blk.cellN h2 1 rfl
    have f2 := Blk.free h2 1
    have hres' : M.NumRes t n ok := hres
    unfold M.NumRes at hres'
    clear hres
    cases hp : M.parse t with
    | some v =>
      rw [hp] at hres'
      obtain ⟨rfl, rfl⟩ := hres'
      have hX : X = (n, (l, 0)) := by rw [← HX.out, hp]
      subst hX
      clear hp
      go_wp2
      go_ret
      exact ⟨rfl, h2, k1.trans (Keep.of_old o2)⟩
    | none =>
      rw [hp] at hres'
      simp only at hres'
      subst hres'
      have hX : X = (0, (l, 11)) := by rw [← HX.out, hp]
      subst hX
      clear hp
      go_wp2
      go_ret
      exact ⟨rfl, h2.set 1 _, (k1.trans (Keep.of_old o2)).set1 1 _⟩
  · simp only [ne_eq, hy, not_false_eq_true, if_true]
    have hy' : (y != 0) = true := by simpa using hy
    go_enter Tryd.func24, Tryd.ntmps24
    go_wp2_with fail
    refine HN.out.mono ?_
    rintro e w1 ⟨rfl, h1, k1⟩
    have c1 := Blk.cellN h1 1 rfl
    go_wp2
    go_ret
    exact ⟨rfl, h1, k1⟩
end Go.Proofs.YtflkinglgnkchaaDoor
