/- The document's reader, its next text. -/
import Derived.Test.YtflkinglgnkchaaDoorRefB
import Derived.Deep.DeepCutAuto
import Derived.Deep.CutBlock
namespace Go.Proofs.YtflkinglgnkchaaDoor
open Go.RowKit

/-- The document's reader in block b. -/
def Rr (w : World) (b : Nat) (r : List UInt8 × Int) : Prop := Blk w b #[.string ⟨⟨r.1⟩⟩, .int .i64 r.2] 38
theorem Rr.old {w w' : World} {b : Nat} {r : List UInt8 × Int} (h : Rr w b r) (k : Old w w') : Rr w' b r := Blk.old h k
theorem Rr.keep {S : Nat → Prop} {w w' : World} {b : Nat} {r : List UInt8 × Int} (h : Rr w b r) (k : Keep S w w') (hb : ¬ S b) : Rr w' b r := Blk.keep h k hb

set_option maxHeartbeats 400000 in
theorem wrong_any (b : Nat) (s : ByteArray) (e x : Int) (w : World) (h : Blk w b #[.string s, .int .i64 e] 38) :
    Calls Tryd.prog 36 #[.pointer (some ⟨b, 0, none⟩), .int .i64 x] w fun e' w' => e' = .returned (.string ⟨⟨[]⟩⟩) ∧ Blk w' b #[.string s, .int .i64 x] 38 ∧ Keep (· = b) w w' := by
  have h0 := h.cellN 0 rfl
  have h1 := h.cellN 1 rfl
  have f0 := h.free 0
  have f1 := h.free 1
  go_enter Tryd.func36, Tryd.ntmps36
  go_wp2
  go_ret
  exact ⟨rfl, by simpa using h.set 1 _, (Keep.refl _ _).set1 1 _⟩

/-- What the document's next text is, and its reader behind it. -/
def rtextS (r : List UInt8 × Int) : List UInt8 × (List UInt8 × Int) :=
  if r.2 ≠ 0 then ([], r) else if (M.cut r.1).2.2 ≠ 0 then ([], (r.1, (M.cut r.1).2.2)) else ((M.cut r.1).1, ((M.cut r.1).2.1, 0))

set_option maxHeartbeats 4000000 in
set_option maxRecDepth 100000 in
theorem rref_text (b : Nat) (s : ByteArray) (w : World) (h : Blk w b #[.string s, .int .i64 0] 38) (hs : s.size ≤ maxLen) :
    Calls Tryd.prog 22 #[.pointer (some ⟨b, 0, none⟩)] w fun e w' => e = .returned (.string ⟨⟨(rtextS (s.data.toList, 0)).1⟩⟩) ∧ Rr w' b (rtextS (s.data.toList, 0)).2 ∧ Keep (· = b) w w' := by
  unfold maxLen at hs
  have h0 := h.cellN 0 rfl
  have h1 := h.cellN 1 rfl
  have f0 := h.free 0
  have f1 := h.free 1
  have hz : s.data.toList.length = s.size := by simp
  have h7 := M.digs_len7 s.data.toList
  have hl := M.digs_len s.data.toList
  have hge : ∀ j (h : j < s.size), s.data.toList[j]? = some s[j] := fun j h => by rw [List.getElem?_eq_getElem (by omega)]; rfl
  have hb7 : M.num (M.digs s.data.toList) < 10 ^ 7 := Nat.lt_of_lt_of_le (M.num_lt _ (M.digs_dig _)) (Nat.pow_le_pow_right (by omega) h7)
  have hX : rtextS (s.data.toList, 0) = if (M.cut s.data.toList).2.2 ≠ 0 then ([], (s.data.toList, (M.cut s.data.toList).2.2)) else ((M.cut s.data.toList).1, ((M.cut s.data.toList).2.1, 0)) := by simp [rtextS]
  generalize rtextS (s.data.toList, 0) = X at *
  have HX := Lib.hid hX
  have HGE := Lib.hid hge
  clear hX hge
  go_enter Tryd.func22, Tryd.ntmps22
  go_upto_block 0 with (fail)
  go_cut [3, 4] (fun n k wx => n = .int .i64 (M.num (M.digs s.data.toList)) ∧ k = .int .i64 (M.digs s.data.toList).length ∧ wx = w)
  case first =>
    go_wp2
    go_loop [3, 4] (fun n i => ∃ k : Nat, k ≤ (M.digs s.data.toList).length ∧ i = .int .i64 k ∧ n = .int .i64 (M.num (s.data.toList.take k))) (fun _ i => s.size - (intOf i).toNat)
    case atStart => exact ⟨0, Nat.zero_le _, rfl, rfl⟩
    case round =>
      obtain ⟨k, hk, rfl, rfl⟩ := hrel
      have hmore := M.digs_more s.data.toList k hk
      have hb : M.num (s.data.toList.take k) < 10 ^ 7 := by
        have h1 := M.num_lt (s.data.toList.take k) (fun c hc => by
          have h2 := M.digs_dig s.data.toList c
          rw [M.digs_take] at h2
          exact h2 (List.take_subset_take_left _ hk hc))
        refine Nat.lt_of_lt_of_le h1 (Nat.pow_le_pow_right (by omega) ?_)
        have := List.length_take_le k s.data.toList
        omega
      by_cases hlt : k < (M.digs s.data.toList).length
      · obtain ⟨h1, h2, h3⟩ := hmore.1 hlt
        have h4 : k < s.size := by omega
        have h5 : M.isDig s[k] = true := h3
        simp [M.isDig] at h5
        obtain ⟨h6, h8⟩ := h5
        have HS : Hid (M.num (s.data.toList.take (k + 1)) = M.num (s.data.toList.take k) * 10 + (s[k].toNat - 48)) := by
          have e : s.data.toList.take (k + 1) = s.data.toList.take k ++ [s[k]] := by
            rw [List.take_succ_eq_append_getElem (by omega)]; rfl
          rw [e, M.num_snoc]; rfl
        clear hmore h3 h2
        go_wp2
        go_round
        case rel => exact ⟨k + 1, by omega, by go_num, by rw [HS.out]; go_num⟩
        case measure => simp [intOf]; omega
      · have hn : (M.digs s.data.toList).length = k := by omega
        have hno : ¬ (k < 7 ∧ ∃ h : k < s.data.toList.length, M.isDig s.data.toList[k] = true) := fun h => hlt (hmore.2 h)
        have ht := M.digs_take s.data.toList
        rw [hn] at ht
        have fin : M.num (s.data.toList.take k) = M.num (M.digs s.data.toList) ∧ k = (M.digs s.data.toList).length := ⟨by rw [ht], hn.symm⟩
        have FIN := Lib.hid fin
        clear hn ht fin hmore hlt hk h7 hl hz
        by_cases a2 : k < s.size
        · by_cases a1 : k < 7
          · have a3 : s[k].toNat < 48 ∨ 57 < s[k].toNat := by
              by_cases h : s[k].toNat < 48 ∨ 57 < s[k].toNat
              · exact h
              · exfalso
                apply hno
                refine ⟨a1, a2, ?_⟩
                have : M.isDig s[k] = true := by simp [M.isDig]; omega
                exact this
            clear hno
            rcases a3 with a3 | a3
            · go_wp2
              go_meet
              case rel => exact ⟨by rw [FIN.out.1], by rw [← FIN.out.2], rfl⟩
            · have a4 : 48 ≤ s[k].toNat := by omega
              go_wp2
              go_meet
              case rel => exact ⟨by rw [FIN.out.1], by rw [← FIN.out.2], rfl⟩
          · clear hno
            go_wp2
            go_meet
            case rel => exact ⟨by rw [FIN.out.1], by rw [← FIN.out.2], rfl⟩
        · clear hno
          go_wp2
          go_meet
          case rel => exact ⟨by rw [FIN.out.1], by rw [← FIN.out.2], rfl⟩
  case rest =>
    obtain ⟨rfl, rfl, rfl⟩ := hcut
    have hX := HX.out
    have hge := HGE.out
    clear HX HGE
    have HCUT : M.cut s.data.toList = M.cut s.data.toList := rfl
    conv at HCUT => rhs; unfold M.cut
    generalize hk : (M.digs s.data.toList).length = k at *
    generalize hn : M.num (M.digs s.data.toList) = n at *
    clear hk hn
    generalize M.cut s.data.toList = r at *
    simp only [hz] at HCUT
    have HW := Lib.hid (fun x => wrong_any b s 0 x wc h)
    by_cases a1 : k = s.size
    · rw [if_pos a1] at HCUT
      subst HCUT
      rw [if_pos (by decide)] at hX
      subst hX
      clear hge
      go_wp2_with ((with_reducible refine (HW.out _).mono ?_); rintro e w' ⟨rfl, hr, k'⟩)
      go_ret
      exact ⟨rfl, hr, k'⟩
    · rw [if_neg a1] at HCUT
      have a2 : k < s.size := by omega
      rw [hge k a2] at HCUT
      by_cases b1 : s[k].toNat = 58
      · have he : s[k] = 58 := UInt8.toNat_inj.1 b1
        have B1 : ((s[k].toNat : Int) != 58) = false := by simp [b1]
        by_cases b2 : k = 0
        · rw [if_pos (Or.inr (Or.inl b2))] at HCUT
          subst HCUT
          rw [if_pos (by decide)] at hX
          subst hX
          have B2 : ((k : Int) == 0) = true := by simp [b2]
          clear hge he b1 b2
          go_wp2_with ((with_reducible refine (HW.out _).mono ?_); rintro e w' ⟨rfl, hr, k'⟩)
          go_ret
          exact ⟨rfl, hr, k'⟩
        · have B2 : ((k : Int) == 0) = false := by rw [beq_eq_false_iff_ne]; omega
          have a0 : 0 < s.size := by omega
          rw [hge 0 a0] at HCUT
          by_cases b3 : 1 < k ∧ s[0].toNat = 48
          · rw [if_pos (Or.inr (Or.inr ⟨b3.1, by rw [show s[0] = 48 from UInt8.toNat_inj.1 b3.2]⟩))] at HCUT
            subst HCUT
            rw [if_pos (by decide)] at hX
            subst hX
            obtain ⟨b3, b4⟩ := b3
            have B4 : ((s[0].toNat : Int) == 48) = true := by simp [b4]
            clear hge he b1 b2 b4
            go_wp2_with ((with_reducible refine (HW.out _).mono ?_); rintro e w' ⟨rfl, hr, k'⟩)
            go_ret
            exact ⟨rfl, hr, k'⟩
          · rw [if_neg (by
              rintro (h | h | ⟨h, h'⟩)
              · exact h (by rw [he])
              · exact b2 h
              · exact b3 ⟨h, by rw [Option.some.inj h']; rfl⟩)] at HCUT
            have hd : (List.drop (k + 1) s.data.toList).length = s.size - (k + 1) := by simp
            rw [hd] at HCUT
            have rest : (1 < k ∧ ((s[0].toNat : Int) == 48) = false) ∨ k ≤ 1 := by
              by_cases h : 1 < k
              · exact Or.inl ⟨h, by rw [beq_eq_false_iff_ne]; intro h'; exact b3 ⟨h, by omega⟩⟩
              · exact Or.inr (by omega)
            clear b3 he b1
            by_cases c1 : s.size - (k + 1) < n + 1
            · rw [if_pos c1] at HCUT
              subst HCUT
              rw [if_pos (by decide)] at hX
              subst hX
              clear hge hd
              rcases rest with ⟨r1, r2⟩ | r1
              all_goals
                go_wp2_with ((with_reducible refine (HW.out _).mono ?_); rintro e w' ⟨rfl, hr, k'⟩)
                go_ret
                exact ⟨rfl, hr, k'⟩
            · rw [if_neg c1] at HCUT
              have c2 : k + 1 + n < s.size := by omega
              rw [List.getElem?_drop, hge _ c2] at HCUT
              have c3 : n < (s.extract (k + 1) s.size).size := by simp; omega
              have hx : (s.extract (k + 1) s.size)[n] = s[k + 1 + n] := ByteArray.getElem_extract _
              by_cases d1 : s[k + 1 + n].toNat = 44
              · have he : s[k + 1 + n] = 44 := UInt8.toNat_inj.1 d1
                have D1 : (((s.extract (k + 1) s.size)[n].toNat : Int) != 44) = false := by rw [hx]; simp [d1]
                rw [if_neg (by rw [he]; simp)] at HCUT
                subst HCUT
                rw [if_neg (by simp)] at hX
                subst hX
                clear hge he d1 hd hx
                have E1 := Lib.hid (ba_eq (a := (s.extract (k + 1) s.size).extract 0 n) (l := List.take n (List.drop (k + 1) s.data.toList)) (by simp; omega))
                have E2 := Lib.hid (ba_eq (a := (s.extract (k + 1) s.size).extract (n + 1) (s.size - (k + 1))) (l := List.drop (k + 1 + (n + 1)) s.data.toList) (by simp; exact List.take_of_length_le (by simp; omega)))
                rcases rest with ⟨r1, r2⟩ | r1
                all_goals
                  go_wp2
                  go_ret
                  rw [E2.out]
                  exact ⟨ret_str E1.out, h.set 0 _, (Keep.refl _ _).set1 0 _⟩
              · have D1 : (((s.extract (k + 1) s.size)[n].toNat : Int) != 44) = true := by rw [hx, bne_iff_ne]; omega
                rw [if_pos (by
                  intro h
                  exact d1 (by rw [Option.some.inj h]; rfl))] at HCUT
                subst HCUT
                rw [if_pos (by decide)] at hX
                subst hX
                clear hge d1 hd hx
                rcases rest with ⟨r1, r2⟩ | r1
                all_goals
                  go_wp2_with ((with_reducible refine (HW.out _).mono ?_); rintro e w' ⟨rfl, hr, k'⟩)
                  go_ret
                  exact ⟨rfl, hr, k'⟩
      · have B1 : ((s[k].toNat : Int) != 58) = true := by rw [bne_iff_ne]; omega
        have hne : s[k] ≠ 58 := fun h => b1 (by rw [h]; rfl)
        rw [if_pos (Or.inl (by simpa using hne))] at HCUT
        subst HCUT
        rw [if_pos (by decide)] at hX
        subst hX
        clear hge hne b1
        go_wp2_with ((with_reducible refine (HW.out _).mono ?_); rintro e w' ⟨rfl, hr, k'⟩)
        go_ret
        exact ⟨rfl, hr, k'⟩

set_option maxHeartbeats 400000 in
set_option maxRecDepth 100000 in
theorem rtext_any' (b : Nat) (r : List UInt8 × Int) (w : World) (h : Rr w b r) (hs : r.1.length ≤ maxLen) :
    Calls Tryd.prog 22 #[.pointer (some ⟨b, 0, none⟩)] w fun e w' => e = .returned (.string ⟨⟨(rtextS r).1⟩⟩) ∧ Rr w' b (rtextS r).2 ∧ Keep (· = b) w w' := by
  obtain ⟨l, x⟩ := r
  by_cases hx : x = 0
  · subst hx
    exact rref_text b ⟨⟨l⟩⟩ w h hs
  · have h0 := Blk.cellN h 0 rfl
    have h1 := Blk.cellN h 1 rfl
    have hx' : (x != 0) = true := by simpa using hx
    have hS : rtextS (l, x) = ([], (l, x)) := by simp [rtextS, hx]
    rw [hS]
    go_enter Tryd.func22, Tryd.ntmps22
    go_wp2
    go_ret
    exact ⟨rfl, h, Keep.refl _ _⟩

set_option maxHeartbeats 400000 in
theorem rleft_any (b : Nat) (r : List UInt8 × Int) (w : World) (h : Rr w b r) :
    Calls Tryd.prog 28 #[.pointer (some ⟨b, 0, none⟩)] w fun e w' => e = .returned (.int .i64 (if r.2 ≠ 0 then 0 else r.1.length)) ∧ w = w' := by
  obtain ⟨l, x⟩ := r
  have h0 := Blk.cellN h 0 rfl
  have h1 := Blk.cellN h 1 rfl
  by_cases hx : x = 0
  · subst hx
    go_enter Tryd.func28, Tryd.ntmps28
    go_wp2
    go_ret
    exact ⟨rfl, rfl⟩
  · have hx' : (x != 0) = true := by simpa using hx
    go_enter Tryd.func28, Tryd.ntmps28
    go_wp2
    go_ret
    exact ⟨by simp, rfl⟩

set_option maxHeartbeats 400000 in
theorem rend_any (b : Nat) (r : List UInt8 × Int) (w : World) (h : Rr w b r) :
    Calls Tryd.prog 30 #[.pointer (some ⟨b, 0, none⟩)] w fun e w' => e = .returned (.int .i64 (endOf r)) ∧ w = w' := by
  obtain ⟨l, x⟩ := r
  have h0 := Blk.cellN h 0 rfl
  have h1 := Blk.cellN h 1 rfl
  by_cases hx : x = 0
  · subst hx
    cases l with
    | nil =>
      go_enter Tryd.func30, Tryd.ntmps30
      go_wp2
      go_ret
      exact ⟨rfl, rfl⟩
    | cons c l =>
      go_enter Tryd.func30, Tryd.ntmps30
      go_wp2
      go_ret
      exact ⟨rfl, rfl⟩
  · have hx' : (x == 0) = false := by simpa using hx
    go_enter Tryd.func30, Tryd.ntmps30
    go_wp2
    go_ret
    exact ⟨by simp [endOf, hx], rfl⟩
end Go.Proofs.YtflkinglgnkchaaDoor
