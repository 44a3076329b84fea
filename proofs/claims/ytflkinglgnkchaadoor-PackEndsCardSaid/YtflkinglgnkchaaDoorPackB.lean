/- The first packed text of bytes: pack.length and pack.cut. -/
import Derived.Test.YtflkinglgnkchaaDoorBase
import Derived.Test.YtflkinglgnkchaaDoorPackM
namespace Go.Proofs.YtflkinglgnkchaaDoor
open Go.RowKit

set_option maxHeartbeats 400000 in
theorem length_any (s : ByteArray) (w : World) (_ : s.size ≤ maxLen) :
    Calls Tryd.prog 47 #[.string s] w fun e w' => e = .returned (.tuple #[.int .i64 (M.num (M.digs s.data.toList)), .int .i64 (M.digs s.data.toList).length]) ∧ w' = w := by
  have hz : s.data.toList.length = s.size := by simp
  go_enter Tryd.func47, Tryd.ntmps47
  go_wp2
  go_loop [4, 5] (fun n i => ∃ k : Nat, k ≤ (M.digs s.data.toList).length ∧ i = .int .i64 k ∧ n = .int .i64 (M.num (s.data.toList.take k))) (fun _ i => s.size - (intOf i).toNat)
  case atStart => exact ⟨0, Nat.zero_le _, rfl, rfl⟩
  case round =>
    obtain ⟨k, hk, rfl, rfl⟩ := hrel
    have hmore := M.digs_more s.data.toList k hk
    have h7 := M.digs_len7 s.data.toList
    have hl := M.digs_len s.data.toList
    have hb : M.num (s.data.toList.take k) < 10 ^ 7 := by
      have h1 := M.num_lt (s.data.toList.take k) (fun c hc => by
        have h2 := M.digs_dig s.data.toList c
        rw [M.digs_take] at h2
        exact h2 (List.take_subset_take_left _ hk hc))
      refine Nat.lt_of_lt_of_le h1 (Nat.pow_le_pow_right (by omega) ?_)
      have := List.length_take_le k s.data.toList
      omega
    by_cases hlt : k < (M.digs s.data.toList).length
    · obtain ⟨h1, h2, h3⟩ := hmore.1 hlt
      have h4 : k < s.size := by omega
      have h5 : M.isDig s[k] = true := h3
      simp [M.isDig] at h5
      obtain ⟨h6, h8⟩ := h5
      clear hmore h3 h2
      have HS : Hid (M.num (s.data.toList.take (k + 1)) = M.num (s.data.toList.take k) * 10 + (s[k].toNat - 48)) := by
        have e : s.data.toList.take (k + 1) = s.data.toList.take k ++ [s[k]] := by
          rw [List.take_succ_eq_append_getElem (by omega)]; rfl
        rw [e, M.num_snoc]; rfl
      go_wp2
      go_round
      case rel => 
        exact ⟨k + 1, by omega, by go_num, by rw [HS.out]; go_num⟩
      case measure => simp [intOf]; omega
    · have hn : (M.digs s.data.toList).length = k := by omega
      have hno : ¬ (k < 7 ∧ ∃ h : k < s.data.toList.length, M.isDig s.data.toList[k] = true) := fun h => hlt (hmore.2 h)
      have ht := M.digs_take s.data.toList
      rw [hn] at ht
      have fin : Ending.returned (.tuple #[.int .i64 (M.num (s.data.toList.take k)), .int .i64 k]) = Ending.returned (.tuple #[.int .i64 (M.num (M.digs s.data.toList)), .int .i64 (M.digs s.data.toList).length]) := by rw [hn, ht]
      have FIN := Lib.hid fin
      clear hn ht fin hmore hlt hk h7 hl hz
      by_cases a1 : k < 7
      · by_cases a2 : k < s.size
        · have a3 : s[k].toNat < 48 ∨ 57 < s[k].toNat := by
            by_cases h : s[k].toNat < 48 ∨ 57 < s[k].toNat
            · exact h
            · exfalso
              apply hno
              refine ⟨a1, a2, ?_⟩
              have : M.isDig s[k] = true := by simp [M.isDig]; omega
              exact this
          clear hno
          rcases a3 with a3 | a3
          · go_wp2
            go_ret2
            exact ⟨FIN.out, rfl⟩
          · have a4 : 48 ≤ s[k].toNat := by omega
            go_wp2
            go_ret2
            exact ⟨FIN.out, rfl⟩
        · clear hno
          go_wp2
          go_ret2
          exact ⟨FIN.out, rfl⟩
      · clear hno
        go_wp2
        go_ret2
        exact ⟨FIN.out, rfl⟩

/-- what cut answers, as one value -/
def cutV (r : List UInt8 × List UInt8 × Int) : Value := .tuple #[.string ⟨⟨r.1⟩⟩, .string ⟨⟨r.2.1⟩⟩, .int .i64 r.2.2]

set_option maxHeartbeats 4000000 in
theorem cut_any (s : ByteArray) (w : World) (hs : s.size ≤ maxLen) :
    Calls Tryd.prog 42 #[.string s] w fun e w' => e = .returned (cutV (M.cut s.data.toList)) ∧ ∃ n, w' = w.drewN n := by
  have hz : s.data.toList.length = s.size := by simp
  have h7 := M.digs_len7 s.data.toList
  have hl := M.digs_len s.data.toList
  have hb : M.num (M.digs s.data.toList) < 10 ^ 7 := Nat.lt_of_lt_of_le (M.num_lt _ (M.digs_dig _)) (Nat.pow_le_pow_right (by omega) h7)
  have hge : ∀ j (h : j < s.size), s.data.toList[j]? = some s[j] := fun j h => by rw [List.getElem?_eq_getElem (by omega)]; rfl
  have HCUT : Hid (M.cut s.data.toList = M.cut s.data.toList) := rfl
  unfold Hid at HCUT
  conv at HCUT => rhs; unfold M.cut
  generalize hk : (M.digs s.data.toList).length = k at *
  generalize hn : M.num (M.digs s.data.toList) = n at *
  have HK := Lib.hid hk
  have HN := Lib.hid hn
  clear hk hn
  generalize hr : M.cut s.data.toList = r at *
  clear hr
  simp only [hz] at HCUT
  by_cases a1 : k = s.size
  · rw [if_pos a1] at HCUT
    subst HCUT
    go_enter Tryd.func42, Tryd.ntmps42
    go_wp2_with ((with_reducible refine (length_any _ _ hs).mono ?_); rintro e w' ⟨rfl, rfl⟩; rw [HK.out, HN.out])
    exact bodyPost_ret (v := cutV _) (by simp [results, Tryd.results42, go_sem, cutV]; try rfl) rfl ⟨rfl, 0, rfl⟩
  · rw [if_neg a1] at HCUT
    have a2 : k < s.size := by omega
    rw [hge k a2] at HCUT
    by_cases b1 : s[k].toNat = 58
    · have he : s[k] = 58 := UInt8.toNat_inj.1 b1
      have B1 : ((s[k].toNat : Int) != 58) = false := by simp [b1]
      by_cases b2 : k = 0
      · rw [if_pos (Or.inr (Or.inl b2))] at HCUT
        subst HCUT
        have B2 : ((k : Int) == 0) = true := by simp [b2]
        clear hge he b1 b2
        go_enter Tryd.func42, Tryd.ntmps42
        go_wp2_with ((with_reducible refine (length_any _ _ hs).mono ?_); rintro e w' ⟨rfl, rfl⟩; rw [HK.out, HN.out])
        exact bodyPost_ret (v := cutV _) (by simp [results, Tryd.results42, go_sem, cutV]; try rfl) rfl ⟨rfl, 0, rfl⟩
      · have B2 : ((k : Int) == 0) = false := by rw [beq_eq_false_iff_ne]; omega
        have a0 : 0 < s.size := by omega
        rw [hge 0 a0] at HCUT
        by_cases b3 : 1 < k ∧ s[0].toNat = 48
        · rw [if_pos (Or.inr (Or.inr ⟨b3.1, by rw [show s[0] = 48 from UInt8.toNat_inj.1 b3.2]⟩))] at HCUT
          subst HCUT
          obtain ⟨b3, b4⟩ := b3
          have B4 : ((s[0].toNat : Int) == 48) = true := by simp [b4]
          clear hge he b1 b2 b4
          go_enter Tryd.func42, Tryd.ntmps42
          go_wp2_with ((with_reducible refine (length_any _ _ hs).mono ?_); rintro e w' ⟨rfl, rfl⟩; rw [HK.out, HN.out])
          exact bodyPost_ret (v := cutV _) (by simp [results, Tryd.results42, go_sem, cutV]; try rfl) rfl ⟨rfl, 0, rfl⟩
        · rw [if_neg (by
            rintro (h | h | ⟨h, h'⟩)
            · exact h (by rw [he])
            · exact b2 h
            · exact b3 ⟨h, by rw [Option.some.inj h']; rfl⟩)] at HCUT
          have hd : (List.drop (k + 1) s.data.toList).length = s.size - (k + 1) := by simp
          rw [hd] at HCUT
          -- the last tests
          have rest : (1 < k ∧ ((s[0].toNat : Int) == 48) = false) ∨ k ≤ 1 := by
            by_cases h : 1 < k
            · exact Or.inl ⟨h, by rw [beq_eq_false_iff_ne]; intro h'; exact b3 ⟨h, by omega⟩⟩
            · exact Or.inr (by omega)
          clear b3 he b1
          by_cases c1 : s.size - (k + 1) < n + 1
          · rw [if_pos c1] at HCUT
            subst HCUT
            clear hge hd
            rcases rest with ⟨r1, r2⟩ | r1
            all_goals
              go_enter Tryd.func42, Tryd.ntmps42
              go_wp2_with ((with_reducible refine (length_any _ _ hs).mono ?_); rintro e w' ⟨rfl, rfl⟩; rw [HK.out, HN.out])
              exact bodyPost_ret (v := cutV _) (by simp [results, Tryd.results42, go_sem, cutV]; try rfl) rfl ⟨rfl, 0, rfl⟩
          · rw [if_neg c1] at HCUT
            have c2 : k + 1 + n < s.size := by omega
            rw [List.getElem?_drop, hge _ c2] at HCUT
            have c3 : n < (s.extract (k + 1) s.size).size := by simp; omega
            have hx : (s.extract (k + 1) s.size)[n] = s[k + 1 + n] := ByteArray.getElem_extract _
            by_cases d1 : s[k + 1 + n].toNat = 44
            · have he : s[k + 1 + n] = 44 := UInt8.toNat_inj.1 d1
              have D1 : (((s.extract (k + 1) s.size)[n].toNat : Int) != 44) = false := by rw [hx]; simp [d1]
              rw [if_neg (by rw [he]; simp)] at HCUT
              subst HCUT
              clear hge he d1 hd hx
              have E1 := Lib.hid (ba_eq (a := (s.extract (k + 1) s.size).extract 0 n) (l := List.take n (List.drop (k + 1) s.data.toList)) (by simp; omega))
              have E2 := Lib.hid (ba_eq (a := (s.extract (k + 1) s.size).extract (n + 1) (s.size - (k + 1))) (l := List.drop (n + 1) (List.drop (k + 1) s.data.toList)) (by simp; exact List.take_of_length_le (by simp; omega)))
              rcases rest with ⟨r1, r2⟩ | r1
              all_goals
                go_enter Tryd.func42, Tryd.ntmps42
                go_wp2_with ((with_reducible refine (length_any _ _ hs).mono ?_); rintro e w' ⟨rfl, rfl⟩; rw [HK.out, HN.out])
                go_quiet (fail)
                go_wp2
                rw [E1.out, E2.out]
                exact bodyPost_ret (v := cutV _) (by simp [results, Tryd.results42, go_sem, cutV]; try rfl) rfl ⟨rfl, nq, rfl⟩
            · have D1 : (((s.extract (k + 1) s.size)[n].toNat : Int) != 44) = true := by rw [hx, bne_iff_ne]; omega
              rw [if_pos (by
                intro h
                exact d1 (by rw [Option.some.inj h]; rfl))] at HCUT
              subst HCUT
              clear hge d1 hd hx
              rcases rest with ⟨r1, r2⟩ | r1
              all_goals
                go_enter Tryd.func42, Tryd.ntmps42
                go_wp2_with ((with_reducible refine (length_any _ _ hs).mono ?_); rintro e w' ⟨rfl, rfl⟩; rw [HK.out, HN.out])
                exact bodyPost_ret (v := cutV _) (by simp [results, Tryd.results42, go_sem, cutV]; try rfl) rfl ⟨rfl, 0, rfl⟩
    · have B1 : ((s[k].toNat : Int) != 58) = true := by rw [bne_iff_ne]; omega
      have hne : s[k] ≠ 58 := fun h => b1 (by rw [h]; rfl)
      rw [if_pos (Or.inl (by simpa using hne))] at HCUT
      subst HCUT
      clear hge hne b1
      go_enter Tryd.func42, Tryd.ntmps42
      go_wp2_with ((with_reducible refine (length_any _ _ hs).mono ?_); rintro e w' ⟨rfl, rfl⟩; rw [HK.out, HN.out])
      exact bodyPost_ret (v := cutV _) (by simp [results, Tryd.results42, go_sem, cutV]; try rfl) rfl ⟨rfl, 0, rfl⟩
end Go.Proofs.YtflkinglgnkchaaDoor
