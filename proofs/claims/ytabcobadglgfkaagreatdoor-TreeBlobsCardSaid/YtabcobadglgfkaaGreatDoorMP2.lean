/- Merged of: RefB RefC RefM RefD RefE. -/
import Derived.Test.YtabcobadglgfkaaGreatDoorMP1
import Derived.Lib.AppendStr
import Derived.Laws.AppendOwnNone
import Derived.Lib.BufferRead
import Derived.Deep.DeepCutAuto
import Derived.Deep.CutBlock
/- The law's own small functions, and the document's list. -/
namespace Go.Proofs.YtabcobadglgfkaaGreatDoor
open Go.RowKit

def fewB (l : List (List UInt8)) : Bool := decide (l.length ≤ 200) && l.all fun s => decide (s.length ≤ 2000)
theorem few_take {l : List (List UInt8)} {k : Nat} (h : ∀ s ∈ l.take k, s.length ≤ 2000) (hk : k < l.length) (hs : l[k].length ≤ 2000) : ∀ s ∈ l.take (k + 1), s.length ≤ 2000 := by
  rw [List.take_succ_eq_append_getElem hk]
  intro s hm
  rcases List.mem_append.1 hm with hm | hm
  · exact h s hm
  · rw [List.mem_singleton.1 hm]; exact hs

theorem take_eq_step {la lb : List (List UInt8)} {k : Nat} (h : la.take k = lb.take k) (ha : k < la.length) (hb : k < lb.length) (he : la[k] = lb[k]) : la.take (k + 1) = lb.take (k + 1) := by
  rw [List.take_succ_eq_append_getElem ha, List.take_succ_eq_append_getElem hb, h, he]

set_option maxHeartbeats 2000000 in
set_option maxRecDepth 100000 in
theorem reflist_any (v : Value) (l : List (List UInt8)) (B0 : Nat) (w : World) (hv : Sl B0 w v (l.map vstr)) (hB0 : B0 ≤ w.heap.size) (hl : l.length ≤ maxLen) (hsum : (M.packs l).length ≤ 140737488355328)
    (heach : ∀ s, s ∈ l → s.length ≤ 9223372036854775000) :
    Calls Tryz.prog 84 #[v] w fun e w' => e = .returned (.string ⟨⟨M.pack (M.packs l)⟩⟩) ∧ Old w w' := by
  unfold maxLen at hl
  obtain ⟨i0, hi, hz0, hz1, hz2⟩ := info_parts infoByte
  obtain ⟨p, cap, rfl⟩ := hv.len
  have hlen : (l.map vstr).length = l.length := by simp
  rw [hlen] at hv ⊢
  have HSUM := Lib.hid hsum
  have HEACH := Lib.hid heach
  clear heach
  go_enter Tryz.func84, Tryz.ntmps84
  go_wp2
  go_loopw [3, 4] (fun o i wr => ∃ k : Nat, k ≤ l.length ∧ i = .int .i64 k ∧ wr.ownsRow w.heap.size 5 1 o (M.packs (l.take k)).length (Lib.byteCells (M.packs (l.take k))) ∧ Old w wr) (fun _ i _ => l.length - (intOf i).toNat)
  case atStart => exact ⟨0, Nat.zero_le _, rfl, World.ownsRow_nil _ _ _ _, Below.refl _ _⟩
  case round =>
    obtain ⟨k, hk, rfl, hown, ho⟩ := hrel
    by_cases hlt : k < l.length
    · obtain ⟨b, off, rfl, hbB, hc⟩ := hv.at (by intro h; have := congrArg List.length h; simp at this; subst this; simp at hlt)
      have hcell : wr.cell? ⟨b, off + k, none⟩ = some (.string ⟨⟨l[k]⟩⟩) := by
        rw [ho.cell (p := ⟨b, off + k, none⟩) (by show b < _; omega), hc k (by simpa using hlt)]; simp [hlt]
      clear hc
      have hp1 : M.packs (l.take (k + 1)) = M.packs (l.take k) ++ M.pack l[k] := by rw [List.take_succ_eq_append_getElem hlt, M.packs_snoc]
      have hle := M.packs_take l (k + 1)
      rw [hp1, List.length_append] at hle
      have HT := Lib.hid (rtext_any ⟨⟨l[k]⟩⟩ wr (HEACH.out l[k] (List.getElem_mem _)))
      have HP := Lib.hid hp1
      clear hp1
      generalize M.packs (l.take k) = pk at *
      generalize M.pack l[k] = x at *
      have hzx : (⟨⟨x⟩⟩ : ByteArray).size = x.length := rfl
      have HZ := Lib.hid hzx
      have hle2 : pk.length + x.length ≤ 140737488355328 := by have := HSUM.out; omega
      have HLE := Lib.hid hle2
      have hsz := ho.size
      clear hzx hle hle2 hsum
      go_wp2_with (first
        | (at_builtin; refine Lib.wpList_append_own_string _ rfl _ _ 55 9 rfl w.heap.size 5 i0 Tryz.underlying55 Tryz.underlying9 hi hz0 hz1 hz2 _ _ _ rfl hown1 ⟨⟨x⟩⟩ rfl ?c3 ?c4 ?c5 ?_)
        | ((with_reducible refine HT.out.mono ?_); rintro e w1 ⟨rfl, o1⟩; have hown1 := row_keep hown (Keep.of_old (S := fun _ => False) o1) (fun _ _ h => h)))
      case c3 => have := HLE.out; have := HZ.out; unfold maxLen; omega
      case c4 => have := HLE.out; have := HZ.out; omega
      case c5 => have := o1.size; omega
      intro v' w2 hown2 hgrow _
      have ho2 : Old w w2 := (Below.trans ho (o1.mono hsz)).grown hgrow (Nat.le_trans hsz o1.size) (fun g hg => row_from hown1 g hg)
      go_wp2
      go_roundw
      case rel => exact ⟨k + 1, by omega, by go_num, by rw [HP.out]; simpa [HZ.out, Lib.byteCells, Lib.strCells] using hown2, ho2⟩
      case measure => simp [intOf]; omega
    · obtain rfl : k = l.length := by omega
      rw [List.take_length] at hown
      have hconv := conv_row wr _ _ _ hown
      have HT := Lib.hid (rtext_any ⟨⟨M.packs l⟩⟩ wr (Nat.le_trans (show (M.packs l).length ≤ _ from hsum) (by decide)))
      have hsz := ho.size
      clear hsum
      go_wp2_with ((with_reducible refine HT.out.mono ?_); rintro e w1 ⟨rfl, o1⟩)
      go_ret
      exact ⟨rfl, Below.trans ho (o1.mono hsz)⟩
end Go.Proofs.YtabcobadglgfkaaGreatDoor

/- The document's reader, its next text. -/
namespace Go.Proofs.YtabcobadglgfkaaGreatDoor
open Go.RowKit

/-- The document's reader in block b. -/
def Rr (w : World) (b : Nat) (r : List UInt8 × Int) : Prop := Blk w b #[.string ⟨⟨r.1⟩⟩, .int .i64 r.2] 69
theorem Rr.old {w w' : World} {b : Nat} {r : List UInt8 × Int} (h : Rr w b r) (k : Old w w') : Rr w' b r := Blk.old h k
theorem Rr.keep {S : Nat → Prop} {w w' : World} {b : Nat} {r : List UInt8 × Int} (h : Rr w b r) (k : Keep S w w') (hb : ¬ S b) : Rr w' b r := Blk.keep h k hb

set_option maxHeartbeats 400000 in
theorem wrong_any (b : Nat) (s : ByteArray) (e x : Int) (w : World) (h : Blk w b #[.string s, .int .i64 e] 69) :
    Calls Tryz.prog 115 #[.pointer (some ⟨b, 0, none⟩), .int .i64 x] w fun e' w' => e' = .returned (.string ⟨⟨[]⟩⟩) ∧ Blk w' b #[.string s, .int .i64 x] 69 ∧ Keep (· = b) w w' := by
  have h0 := h.cellN 0 rfl
  have h1 := h.cellN 1 rfl
  have f0 := h.free 0
  have f1 := h.free 1
  go_enter Tryz.func115, Tryz.ntmps115
  go_wp2
  go_ret
  exact ⟨rfl, by simpa using h.set 1 _, (Keep.refl _ _).set1 1 _⟩

/-- What the document's next text is, and its reader behind it. -/
def rtextS (r : List UInt8 × Int) : List UInt8 × (List UInt8 × Int) :=
  if r.2 ≠ 0 then ([], r) else if (M.cut r.1).2.2 ≠ 0 then ([], (r.1, (M.cut r.1).2.2)) else ((M.cut r.1).1, ((M.cut r.1).2.1, 0))

set_option maxHeartbeats 4000000 in
set_option maxRecDepth 100000 in
theorem rref_text (b : Nat) (s : ByteArray) (w : World) (h : Blk w b #[.string s, .int .i64 0] 69) (hs : s.size ≤ maxLen) :
    Calls Tryz.prog 89 #[.pointer (some ⟨b, 0, none⟩)] w fun e w' => e = .returned (.string ⟨⟨(rtextS (s.data.toList, 0)).1⟩⟩) ∧ Rr w' b (rtextS (s.data.toList, 0)).2 ∧ Keep (· = b) w w' := by
  unfold maxLen at hs
  have h0 := h.cellN 0 rfl
  have h1 := h.cellN 1 rfl
  have f0 := h.free 0
  have f1 := h.free 1
  have hz : s.data.toList.length = s.size := by simp
  have h7 := M.digs_len7 s.data.toList
  have hl := M.digs_len s.data.toList
  have hge : ∀ j (h : j < s.size), s.data.toList[j]? = some s[j] := fun j h => by rw [List.getElem?_eq_getElem (by omega)]; rfl
  have hb7 : M.num (M.digs s.data.toList) < 10 ^ 7 := Nat.lt_of_lt_of_le (M.num_lt _ (M.digs_dig _)) (Nat.pow_le_pow_right (by omega) h7)
  have hX : rtextS (s.data.toList, 0) = if (M.cut s.data.toList).2.2 ≠ 0 then ([], (s.data.toList, (M.cut s.data.toList).2.2)) else ((M.cut s.data.toList).1, ((M.cut s.data.toList).2.1, 0)) := by simp [rtextS]
  generalize rtextS (s.data.toList, 0) = X at *
  have HX := Lib.hid hX
  have HGE := Lib.hid hge
  clear hX hge
  go_enter Tryz.func89, Tryz.ntmps89
  go_upto_block 0 with (fail)
  go_cut [3, 4] (fun n k wx => n = .int .i64 (M.num (M.digs s.data.toList)) ∧ k = .int .i64 (M.digs s.data.toList).length ∧ wx = w)
  case first =>
    go_wp2
    go_loop [3, 4] (fun n i => ∃ k : Nat, k ≤ (M.digs s.data.toList).length ∧ i = .int .i64 k ∧ n = .int .i64 (M.num (s.data.toList.take k))) (fun _ i => s.size - (intOf i).toNat)
    case atStart => exact ⟨0, Nat.zero_le _, rfl, rfl⟩
    case round =>
      obtain ⟨k, hk, rfl, rfl⟩ := hrel
      have hmore := M.digs_more s.data.toList k hk
      have hb : M.num (s.data.toList.take k) < 10 ^ 7 := by
        have h1 := M.num_lt (s.data.toList.take k) (fun c hc => by
          have h2 := M.digs_dig s.data.toList c
          rw [M.digs_take] at h2
          exact h2 (List.take_subset_take_left _ hk hc))
        refine Nat.lt_of_lt_of_le h1 (Nat.pow_le_pow_right (by omega) ?_)
        have := List.length_take_le k s.data.toList
        omega
      by_cases hlt : k < (M.digs s.data.toList).length
      · obtain ⟨h1, h2, h3⟩ := hmore.1 hlt
        have h4 : k < s.size := by omega
        have h5 : M.isDig s[k] = true := h3
        simp [M.isDig] at h5
        obtain ⟨h6, h8⟩ := h5
        have HS : Hid (M.num (s.data.toList.take (k + 1)) = M.num (s.data.toList.take k) * 10 + (s[k].toNat - 48)) := by
          have e : s.data.toList.take (k + 1) = s.data.toList.take k ++ [s[k]] := by
            rw [List.take_succ_eq_append_getElem (by omega)]; rfl
          rw [e, M.num_snoc]; rfl
        clear hmore h3 h2
        go_wp2
        go_round
        case rel => exact ⟨k + 1, by omega, by go_num, by rw [HS.out]; go_num⟩
        case measure => simp [intOf]; omega
      · have hn : (M.digs s.data.toList).length = k := by omega
        have hno : ¬ (k < 7 ∧ ∃ h : k < s.data.toList.length, M.isDig s.data.toList[k] = true) := fun h => hlt (hmore.2 h)
        have ht := M.digs_take s.data.toList
        rw [hn] at ht
        have fin : M.num (s.data.toList.take k) = M.num (M.digs s.data.toList) ∧ k = (M.digs s.data.toList).length := ⟨by rw [ht], hn.symm⟩
        have FIN := Lib.hid fin
        clear hn ht fin hmore hlt hk h7 hl hz
        by_cases a2 : k < s.size
        · by_cases a1 : k < 7
          · have a3 : s[k].toNat < 48 ∨ 57 < s[k].toNat := by
              by_cases h : s[k].toNat < 48 ∨ 57 < s[k].toNat
              · exact h
              · exfalso
                apply hno
                refine ⟨a1, a2, ?_⟩
                have : M.isDig s[k] = true := by simp [M.isDig]; omega
                exact this
            clear hno
            rcases a3 with a3 | a3
            · go_wp2
              go_meet
              case rel => exact ⟨by rw [FIN.out.1], by rw [← FIN.out.2], rfl⟩
            · have a4 : 48 ≤ s[k].toNat := by omega
              go_wp2
              go_meet
              case rel => exact ⟨by rw [FIN.out.1], by rw [← FIN.out.2], rfl⟩
          · clear hno
            go_wp2
            go_meet
            case rel => exact ⟨by rw [FIN.out.1], by rw [← FIN.out.2], rfl⟩
        · clear hno
          go_wp2
          go_meet
          case rel => exact ⟨by rw [FIN.out.1], by rw [← FIN.out.2], rfl⟩
  case rest =>
    obtain ⟨rfl, rfl, rfl⟩ := hcut
    have hX := HX.out
    have hge := HGE.out
    clear HX HGE
    have HCUT : M.cut s.data.toList = M.cut s.data.toList := rfl
    conv at HCUT => rhs; unfold M.cut
    generalize hk : (M.digs s.data.toList).length = k at *
    generalize hn : M.num (M.digs s.data.toList) = n at *
    clear hk hn
    generalize M.cut s.data.toList = r at *
    simp only [hz] at HCUT
    have HW := Lib.hid (fun x => wrong_any b s 0 x wc h)
    by_cases a1 : k = s.size
    · rw [if_pos a1] at HCUT
      subst HCUT
      rw [if_pos (by decide)] at hX
      subst hX
      clear hge
      go_wp2_with ((with_reducible refine (HW.out _).mono ?_); rintro e w' ⟨rfl, hr, k'⟩)
      go_ret
      exact ⟨rfl, hr, k'⟩
    · rw [if_neg a1] at HCUT
      have a2 : k < s.size := by omega
      rw [hge k a2] at HCUT
      by_cases b1 : s[k].toNat = 58
      · have he : s[k] = 58 := UInt8.toNat_inj.1 b1
        have B1 : ((s[k].toNat : Int) != 58) = false := by simp [b1]
        by_cases b2 : k = 0
        · rw [if_pos (Or.inr (Or.inl b2))] at HCUT
          subst HCUT
          rw [if_pos (by decide)] at hX
          subst hX
          have B2 : ((k : Int) == 0) = true := by simp [b2]
          clear hge he b1 b2
          go_wp2_with ((with_reducible refine (HW.out _).mono ?_); rintro e w' ⟨rfl, hr, k'⟩)
          go_ret
          exact ⟨rfl, hr, k'⟩
        · have B2 : ((k : Int) == 0) = false := by rw [beq_eq_false_iff_ne]; omega
          have a0 : 0 < s.size := by omega
          rw [hge 0 a0] at HCUT
          by_cases b3 : 1 < k ∧ s[0].toNat = 48
          · rw [if_pos (Or.inr (Or.inr ⟨b3.1, by rw [show s[0] = 48 from UInt8.toNat_inj.1 b3.2]⟩))] at HCUT
            subst HCUT
            rw [if_pos (by decide)] at hX
            subst hX
            obtain ⟨b3, b4⟩ := b3
            have B4 : ((s[0].toNat : Int) == 48) = true := by simp [b4]
            clear hge he b1 b2 b4
            go_wp2_with ((with_reducible refine (HW.out _).mono ?_); rintro e w' ⟨rfl, hr, k'⟩)
            go_ret
            exact ⟨rfl, hr, k'⟩
          · rw [if_neg (by
              rintro (h | h | ⟨h, h'⟩)
              · exact h (by rw [he])
              · exact b2 h
              · exact b3 ⟨h, by rw [Option.some.inj h']; rfl⟩)] at HCUT
            have hd : (List.drop (k + 1) s.data.toList).length = s.size - (k + 1) := by simp
            rw [hd] at HCUT
            have rest : (1 < k ∧ ((s[0].toNat : Int) == 48) = false) ∨ k ≤ 1 := by
              by_cases h : 1 < k
              · exact Or.inl ⟨h, by rw [beq_eq_false_iff_ne]; intro h'; exact b3 ⟨h, by omega⟩⟩
              · exact Or.inr (by omega)
            clear b3 he b1
            by_cases c1 : s.size - (k + 1) < n + 1
            · rw [if_pos c1] at HCUT
              subst HCUT
              rw [if_pos (by decide)] at hX
              subst hX
              clear hge hd
              rcases rest with ⟨r1, r2⟩ | r1
              all_goals
                go_wp2_with ((with_reducible refine (HW.out _).mono ?_); rintro e w' ⟨rfl, hr, k'⟩)
                go_ret
                exact ⟨rfl, hr, k'⟩
            · rw [if_neg c1] at HCUT
              have c2 : k + 1 + n < s.size := by omega
              rw [List.getElem?_drop, hge _ c2] at HCUT
              have c3 : n < (s.extract (k + 1) s.size).size := by simp; omega
              have hx : (s.extract (k + 1) s.size)[n] = s[k + 1 + n] := ByteArray.getElem_extract _
              by_cases d1 : s[k + 1 + n].toNat = 44
              · have he : s[k + 1 + n] = 44 := UInt8.toNat_inj.1 d1
                have D1 : (((s.extract (k + 1) s.size)[n].toNat : Int) != 44) = false := by rw [hx]; simp [d1]
                rw [if_neg (by rw [he]; simp)] at HCUT
                subst HCUT
                rw [if_neg (by simp)] at hX
                subst hX
                clear hge he d1 hd hx
                have E1 := Lib.hid (ba_eq (a := (s.extract (k + 1) s.size).extract 0 n) (l := List.take n (List.drop (k + 1) s.data.toList)) (by simp; omega))
                have E2 := Lib.hid (ba_eq (a := (s.extract (k + 1) s.size).extract (n + 1) (s.size - (k + 1))) (l := List.drop (k + 1 + (n + 1)) s.data.toList) (by simp; exact List.take_of_length_le (by simp; omega)))
                rcases rest with ⟨r1, r2⟩ | r1
                all_goals
                  go_wp2
                  go_ret
                  rw [E2.out]
                  exact ⟨ret_str E1.out, h.set 0 _, (Keep.refl _ _).set1 0 _⟩
              · have D1 : (((s.extract (k + 1) s.size)[n].toNat : Int) != 44) = true := by rw [hx, bne_iff_ne]; omega
                rw [if_pos (by
                  intro h
                  exact d1 (by rw [Option.some.inj h]; rfl))] at HCUT
                subst HCUT
                rw [if_pos (by decide)] at hX
                subst hX
                clear hge d1 hd hx
                rcases rest with ⟨r1, r2⟩ | r1
                all_goals
                  go_wp2_with ((with_reducible refine (HW.out _).mono ?_); rintro e w' ⟨rfl, hr, k'⟩)
                  go_ret
                  exact ⟨rfl, hr, k'⟩
      · have B1 : ((s[k].toNat : Int) != 58) = true := by rw [bne_iff_ne]; omega
        have hne : s[k] ≠ 58 := fun h => b1 (by rw [h]; rfl)
        rw [if_pos (Or.inl (by simpa using hne))] at HCUT
        subst HCUT
        rw [if_pos (by decide)] at hX
        subst hX
        clear hge hne b1
        go_wp2_with ((with_reducible refine (HW.out _).mono ?_); rintro e w' ⟨rfl, hr, k'⟩)
        go_ret
        exact ⟨rfl, hr, k'⟩

set_option maxHeartbeats 400000 in
set_option maxRecDepth 100000 in
theorem rtext_any' (b : Nat) (r : List UInt8 × Int) (w : World) (h : Rr w b r) (hs : r.1.length ≤ maxLen) :
    Calls Tryz.prog 89 #[.pointer (some ⟨b, 0, none⟩)] w fun e w' => e = .returned (.string ⟨⟨(rtextS r).1⟩⟩) ∧ Rr w' b (rtextS r).2 ∧ Keep (· = b) w w' := by
  obtain ⟨l, x⟩ := r
  by_cases hx : x = 0
  · subst hx
    exact rref_text b ⟨⟨l⟩⟩ w h hs
  · have h0 := Blk.cellN h 0 rfl
    have h1 := Blk.cellN h 1 rfl
    have hx' : (x != 0) = true := by simpa using hx
    have hS : rtextS (l, x) = ([], (l, x)) := by simp [rtextS, hx]
    rw [hS]
    go_enter Tryz.func89, Tryz.ntmps89
    go_wp2
    go_ret
    exact ⟨rfl, h, Keep.refl _ _⟩

set_option maxHeartbeats 400000 in
theorem rleft_any (b : Nat) (r : List UInt8 × Int) (w : World) (h : Rr w b r) :
    Calls Tryz.prog 48 #[.pointer (some ⟨b, 0, none⟩)] w fun e w' => e = .returned (.int .i64 (if r.2 ≠ 0 then 0 else r.1.length)) ∧ w = w' := by
  obtain ⟨l, x⟩ := r
  have h0 := Blk.cellN h 0 rfl
  have h1 := Blk.cellN h 1 rfl
  by_cases hx : x = 0
  · subst hx
    go_enter Tryz.func48, Tryz.ntmps48
    go_wp2
    go_ret
    exact ⟨rfl, rfl⟩
  · have hx' : (x != 0) = true := by simpa using hx
    go_enter Tryz.func48, Tryz.ntmps48
    go_wp2
    go_ret
    exact ⟨by simp, rfl⟩

set_option maxHeartbeats 400000 in
theorem rend_any (b : Nat) (r : List UInt8 × Int) (w : World) (h : Rr w b r) :
    Calls Tryz.prog 50 #[.pointer (some ⟨b, 0, none⟩)] w fun e w' => e = .returned (.int .i64 (endOf r)) ∧ w = w' := by
  obtain ⟨l, x⟩ := r
  have h0 := Blk.cellN h 0 rfl
  have h1 := Blk.cellN h 1 rfl
  by_cases hx : x = 0
  · subst hx
    cases l with
    | nil =>
      go_enter Tryz.func50, Tryz.ntmps50
      go_wp2
      go_ret
      exact ⟨rfl, rfl⟩
    | cons c l =>
      go_enter Tryz.func50, Tryz.ntmps50
      go_wp2
      go_ret
      exact ⟨rfl, rfl⟩
  · have hx' : (x == 0) = false := by simpa using hx
    go_enter Tryz.func50, Tryz.ntmps50
    go_wp2
    go_ret
    exact ⟨by simp [endOf, hx], rfl⟩
end Go.Proofs.YtabcobadglgfkaaGreatDoor

/- Plain facts: the number that digits say, digit by digit, and what is no number. Nothing of the program stands here. -/
namespace Go.Proofs.YtabcobadglgfkaaGreatDoor.M
open Go.Lib

/-- What stands behind the sign. -/
def body (l : List UInt8) : List UInt8 := if l.head? = some 45 then l.tail else l
theorem num_app_le (l r : List UInt8) : num l ≤ num (l ++ r) := by
  refine snoc_ind (p := fun r => num l ≤ num (l ++ r)) ?_ ?_ r
  · simp
  · intro r c ih
    rw [← List.append_assoc, num_snoc]; omega
theorem num_take_le (l : List UInt8) (k : Nat) : num (l.take k) ≤ num l := by
  have := num_app_le (l.take k) (l.drop k)
  rwa [List.take_append_drop] at this
theorem body_itoa (v : Int) : body (itoa v) = decDigits v.natAbs ∧ ((itoa v).head? = some 45 ↔ v < 0) := by
  refine ⟨?_, itoa_sign v⟩
  unfold body
  by_cases h : v < 0
  · rw [if_pos ((itoa_sign v).2 h)]
    unfold itoa; rw [if_pos h]; rfl
  · rw [if_neg (fun h' => h ((itoa_sign v).1 h'))]
    unfold itoa; rw [if_neg h]
    congr 1; omega
/-- What a text that is a number's digits comes to. -/
theorem is_num {l : List UInt8} {v : Int} (h : itoa v = l) (h0 : -9223372036854775808 ≤ v) (h1 : v ≤ 9223372036854775807) :
    (∀ c ∈ body l, 48 ≤ c.toNat ∧ c.toNat ≤ 57) ∧ num (body l) = v.natAbs ∧ body l ≠ [] ∧ (body l).length ≤ 19 ∧ (l.head? = some 45 ↔ v < 0) := by
  subst h
  obtain ⟨h2, h3⟩ := body_itoa v
  rw [h2]
  exact ⟨dec_dig _, num_dec _, dec_ne _, dec_len _ 19 (by omega) (by omega), h3⟩
/-- What the document's reckoning of a number leaves: the number and true, or false. -/
def NumRes (l : List UInt8) (n : Int) (b : Bool) : Prop := match parse l with | some v => n = v ∧ b = true | none => b = false
theorem NumRes.no {l : List UInt8} {n : Int} (h : ∀ v, itoa v = l → -9223372036854775808 ≤ v → v ≤ 9223372036854775807 → False) : NumRes l n false := by
  unfold NumRes
  cases hp : parse l with
  | none => rfl
  | some v => obtain ⟨h1, h2, h3, _⟩ := parse_some hp; exact (h v h1 h2 h3).elim
theorem NumRes.yes {l : List UInt8} {n : Int} (h0 : -9223372036854775808 ≤ n) (h1 : n ≤ 9223372036854775807) (h : itoa n = l) : NumRes l n true := by
  unfold NumRes
  subst h
  rw [parse_itoa n h0 h1]
  exact ⟨rfl, rfl⟩
theorem num_dig_bound {l : List UInt8} {k : Nat} (hk : k < l.length) : num (l.take (k + 1)) = num (l.take k) * 10 + (l[k].toNat - 48) := by
  rw [List.take_succ_eq_append_getElem hk, num_snoc]
end Go.Proofs.YtabcobadglgfkaaGreatDoor.M

/- The document's reader: its next number. -/
namespace Go.Proofs.YtabcobadglgfkaaGreatDoor
open Go.RowKit

/-- What the reckoning of a number answers. -/
def NumPost (l : List UInt8) (w : World) (e : Ending) (w' : World) : Prop := (∃ n b, e = .returned (.tuple #[.int .i64 n, .bool b]) ∧ M.NumRes l n b) ∧ Old w w'
theorem NumPost.no {l : List UInt8} {w w' : World} (h : ∀ v, Lib.itoa v = l → -9223372036854775808 ≤ v → v ≤ 9223372036854775807 → False) (ho : Old w w') : NumPost l w (.returned (.tuple #[.int .i64 0, .bool false])) w' :=
  ⟨⟨0, false, rfl, M.NumRes.no h⟩, ho⟩

theorem over_iff {m c : Nat} (h0 : 48 ≤ c) (h1 : c ≤ 57) : -(m : Int) < (-9223372036854775808 + ((c : Int) - 48)).tdiv 10 ↔ 9223372036854775808 < m * 10 + (c - 48) := by
  have e : (-9223372036854775808 + ((c : Int) - 48)) = -(9223372036854775808 - ((c : Int) - 48)) := by omega
  rw [e, Int.neg_tdiv, Int.tdiv_eq_ediv_of_nonneg (by omega)]
  omega

/-- What the document's next number is, and its reader behind it. -/
def rnumS (r : List UInt8 × Int) : Int × (List UInt8 × Int) :=
  if (rtextS r).2.2 ≠ 0 then (0, (rtextS r).2) else match M.parse (rtextS r).1 with
    | some v => (v, (rtextS r).2)
    | none => (0, ((rtextS r).2.1, 11))

theorem rtextS_len (r : List UInt8 × Int) : (rtextS r).1.length ≤ r.1.length ∧ (rtextS r).2.1.length ≤ r.1.length := by
  unfold rtextS
  split
  · simp
  · split
    · simp
    · exact cut_len r.1

end Go.Proofs.YtabcobadglgfkaaGreatDoor

/- The document's reader: its next list. -/
namespace Go.Proofs.YtabcobadglgfkaaGreatDoor
open Go.RowKit

/-- What the document's next list is, and its reader behind it. -/
def rlistS (r : List UInt8 × Int) : List (List UInt8) × (List UInt8 × Int) :=
  if (rtextS r).2.2 ≠ 0 then ([], (rtextS r).2) else match M.unpk (rtextS r).1 with
    | some l => (l, (rtextS r).2)
    | none => ([], ((rtextS r).2.1, 11))

def TakenR (t : List UInt8) (acc : List (List UInt8)) (r : List UInt8 × Int) : Prop :=
  (r.2 = 0 ∧ M.unpk t = (M.unpk r.1).map (acc ++ ·) ∧ acc.length + r.1.length ≤ t.length) ∨ (r.2 ≠ 0 ∧ M.unpk t = none ∧ acc.length ≤ t.length + 1)
theorem TakenR.start (t : List UInt8) : TakenR t [] (t, 0) := Or.inl ⟨rfl, by simp, by simp⟩
def rm (r : List UInt8 × Int) : Nat := if r.2 = 0 then r.1.length + 1 else 0
theorem TakenR.step {t : List UInt8} {acc : List (List UInt8)} {r : List UInt8 × Int} (h : TakenR t acc r) (hne : r.1 ≠ []) (h0 : r.2 = 0) :
    TakenR t (acc ++ [(rtextS r).1]) (rtextS r).2 ∧ rm (rtextS r).2 < rm r ∧ acc.length ≤ t.length := by
  obtain ⟨l, x⟩ := r
  simp only at h0 hne
  subst h0
  rcases h with ⟨_, h1, h2⟩ | ⟨h0, _⟩
  · simp only at h1 h2
    have hpos : 0 < l.length := List.length_pos_iff.2 hne
    by_cases hc : (M.cut l).2.2 = 0
    · have e : rtextS (l, 0) = ((M.cut l).1, ((M.cut l).2.1, 0)) := by simp [rtextS, hc]
      have hs := M.cut_shorter hc
      rw [e]
      refine ⟨Or.inl ⟨rfl, ?_, ?_⟩, by simp [rm]; omega, by omega⟩
      · rw [h1, M.unpk_ok hc, Option.map_map]
        congr 1; funext x; simp
      · simp; omega
    · have e : rtextS (l, 0) = ([], (l, (M.cut l).2.2)) := by simp [rtextS, hc]
      rw [e]
      refine ⟨Or.inr ⟨hc, ?_, ?_⟩, by simp [rm, hc], by omega⟩
      · rw [h1, M.unpk_bad hne hc]; rfl
      · simp; omega
  · exact absurd rfl h0

def restR (w : World) (b : Nat) : Nat := match w.cell? ⟨b, 0, none⟩, w.cell? ⟨b, 1, none⟩ with | some (.string s), some (.int _ e) => if e = 0 then s.size + 1 else 0 | _, _ => 0
theorem Rr.lt {w : World} {b : Nat} {r : List UInt8 × Int} (h : Rr w b r) : b < w.heap.size := Blk.lt h
theorem Rr.len {w : World} {b : Nat} {r : List UInt8 × Int} (h : Rr w b r) : restR w b = rm r := by
  unfold restR
  rw [Blk.cellN h 0 rfl, Blk.cellN h 1 rfl]
  rfl

/-- What the document's next list leaves. -/
def ListPostR (b : Nat) (x : List (List UInt8) × (List UInt8 × Int)) (w : World) (e : Ending) (w' : World) : Prop :=
  ∃ v, e = .returned v ∧ Sl w'.heap.size w' v (x.1.map vstr) ∧ (∀ g, v.ownBlock = some g → w.heap.size ≤ g) ∧ Rr w' b x.2 ∧ Keep (· = b) w w'
theorem ListPostR.nil {b : Nat} {r : List UInt8 × Int} {w w' : World} (h : Rr w' b r) (k : Keep (· = b) w w') : ListPostR b ([], r) w (.returned (.slice none 0 0)) w' :=
  ⟨_, rfl, ⟨none, 0, rfl, fun _ => rfl, fun h => absurd rfl h⟩, fun g hg => (by cases hg), h, k⟩

set_option maxHeartbeats 2000000 in
set_option maxRecDepth 100000 in
theorem rrlist_any (b : Nat) (r : List UInt8 × Int) (w : World) (h : Rr w b r) (hs : r.1.length ≤ 1099511627776) :
    Calls Tryz.prog 49 #[.pointer (some ⟨b, 0, none⟩)] w (ListPostR b (rlistS r) w) := by
  obtain ⟨i0, hi, hz0, hz1, hz2⟩ := info_parts infoString
  have hlen := rtextS_len r
  have HN := Lib.hid (rtext_any' b r w h (by unfold maxLen; omega))
  unfold rlistS
  have hT0 : (rtextS r).2.2 ≠ 0 → (rtextS r).1 = [] := by
    unfold rtextS
    split
    · intro _; rfl
    · split
      · intro _; rfl
      · intro h; exact absurd rfl h
  have HT0 := Lib.hid hT0
  clear hT0
  generalize rtextS r = n at *
  obtain ⟨t, l, y⟩ := n
  simp only at hlen HT0 ⊢
  have hlb : l.length ≤ 1099511627776 := by omega
  have htb : t.length ≤ 1099511627776 := by omega
  by_cases hy : y = 0
  · subst hy
    simp only [ne_eq, not_true_eq_false, if_false]
    generalize hx : (match M.unpk t with | some L => (L, (l, (0 : Int))) | none => ([], (l, 11)) : List (List UInt8) × (List UInt8 × Int)) = x
    have HX := Lib.hid hx
    have HTB := Lib.hid htb
    clear hx hs hlen hlb htb
    go_enter Tryz.func49, Tryz.ntmps49
    go_wp2_with ((with_reducible refine HN.out.mono ?_); rintro e w1 ⟨rfl, h1, k1⟩)
    have hr0 : Rr (w1.alloc (.cells #[.string ⟨⟨t⟩⟩, .int .i64 0] 69)) w1.heap.size (t, 0) := Blk.new w1 _ _
    go_loopw [5] (fun v wr => ∃ acc r2, wr.ownsRow (w1.heap.size + 1) 9 1 v acc.length (acc.map vstr) ∧ Rr wr w1.heap.size r2 ∧ TakenR t acc r2 ∧ Old w1 wr) (fun _ wr => restR wr w1.heap.size)
    case atStart => exact ⟨[], (t, 0), World.ownsRow_nil _ _ _ _, hr0, TakenR.start t, Old.alloc _ _⟩
    case round =>
      obtain ⟨acc, r2, hown, hr2, htk, ho⟩ := hrel
      have hb1 : Rr wr b (l, 0) := h1.old ho
      have d1 := Blk.cellN hb1 1 rfl
      have d2 := Blk.free hb1 1
      have e0 := Blk.cellN hr2 0 rfl
      have e1 := Blk.cellN hr2 1 rfl
      have hrl := Rr.len hr2
      have hsz := ho.size
      obtain ⟨l2, y2⟩ := r2
      simp only at e0 e1
      by_cases hy2 : y2 = 0
      · subst hy2
        cases l2 with
        | nil =>
          have hxx : x = (acc, (l, 0)) := by
            rcases htk with ⟨_, g1, _⟩ | ⟨g0, _⟩
            · rw [← HX.out, g1, M.unpk_nil]; simp
            · exact absurd rfl g0
          subst hxx
          have hsl := Sl.of_row (xs := acc.map vstr) (by simpa using hown)
          have hfr := row_from hown
          clear HX hown htk hrl
          go_wp2
          go_ret
          exact ⟨_, rfl, hsl, fun g hg => Nat.le_trans k1.size (Nat.le_of_succ_le (hfr g hg)), hb1, k1.trans (Keep.of_old ho)⟩
        | cons c l2 =>
          have hst := htk.step (by simp) rfl
          have hle : (c :: l2).length ≤ 1099511627776 := by
            rcases htk with ⟨_, _, g⟩ | ⟨g, _⟩
            · have := HTB.out; simp only at g; omega
            · exact absurd rfl g
          have hT := Lib.hid (rtext_any' w1.heap.size (c :: l2, 0) wr hr2 (by simp only [maxLen]; omega))
          have hbound : acc.length + 1 ≤ 2199023255552 := by have := hst.2.2; have := HTB.out; omega
          have HB := Lib.hid hbound
          have HST := Lib.hid hst
          clear hst htk hle hbound
          go_wp2_with (first
            | (at_builtin; refine wpList_append_own _ rfl _ _ 43 rfl (w1.heap.size + 1) 9 i0 (.string ⟨#[]⟩) 1 16 Tryz.underlying43 hi hz0 hz1 hz2 rfl (by decide) _ _ _ rfl (hown3.alloc _) ⟨w3.heap.size, 0, none⟩ 1 1 [vstr (rtextS (c :: l2, 0)).1] rfl rfl ?c1 ?c2 ?c3 ?c4 ?c5 ?_)
            | ((with_reducible refine hT.out.mono ?_); rintro e w3 ⟨rfl, h3, k3⟩; have hown3 := row_keep hown k3 (fun g hg => by omega)))
          case c1 => intro j u hj; match j, hj with | 0, hj => simp at hj; subst hj; simp [Addr.add]
          case c2 => intro u hu; simp at hu; subst hu; rfl
          case c3 => have := HB.out; unfold maxLen; omega
          case c4 => have := HB.out; omega
          case c5 => have := k3.size; have := hr2.lt; simp; omega
          intro v' w4 hown4 hgrow _
          have hne : u5.ownBlock ≠ some w1.heap.size := fun hg => by have := row_from hown _ hg; omega
          have h4 : Rr w4 w1.heap.size (rtextS (c :: l2, 0)).2 := Blk.grown (Blk.alloc h3 _) hgrow hne
          have hrl4 := Rr.len h4
          have ho4 : Old w1 w4 := by
            refine Keep.below (S := fun k => w1.heap.size ≤ k) ?_ (Nat.le_refl _) (fun k hk => by omega)
            refine (((Keep.of_old ho).trans (k3.mono (fun k _ hk => by omega))).alloc _).grown hgrow (fun k hk => ?_)
            exact Or.inl (Nat.le_of_succ_le (row_from hown3 k hk))
          go_wp2
          go_roundw
          case rel => exact ⟨acc ++ [(rtextS (c :: l2, 0)).1], (rtextS (c :: l2, 0)).2, by simpa using hown4, h4, HST.out.1, ho4⟩
          case measure => rw [hrl4, hrl]; exact HST.out.2.1
      · have hxx : x = ([], (l, 11)) := by
          rcases htk with ⟨g0, _⟩ | ⟨_, g1, _⟩
          · exact absurd g0 hy2
          · rw [← HX.out, g1]
        subst hxx
        have hy3 : (y2 == 0) = false := by simpa using hy2
        have hy4 : (y2 != 0) = true := by simpa using hy2
        clear HX hown htk hrl
        cases l2
        all_goals
          go_wp2
          go_ret
          exact ListPostR.nil (hb1.set 1 _) ((k1.trans (Keep.of_old ho)).set1 1 _)
  · simp only [ne_eq, hy, not_false_eq_true, if_true]
    have hy' : (y != 0) = true := by simpa using hy
    have hy3 : (y == 0) = false := by simpa using hy
    clear hs hlen hlb htb
    obtain rfl : t = [] := HT0.out hy
    go_enter Tryz.func49, Tryz.ntmps49
    go_wp2_with ((with_reducible refine HN.out.mono ?_); rintro e w1 ⟨rfl, h1, k1⟩)
    have d1 := Blk.cellN h1 1 rfl
    have hb2 := h1.lt
    refine wp_loop_rounds 1 ?_
    rw [rounds_succ]
    go_wp2
    go_ret
    exact ListPostR.nil (h1.old (Old.alloc _ _)) (k1.alloc _)
end Go.Proofs.YtabcobadglgfkaaGreatDoor
