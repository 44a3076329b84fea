/- The law's own small functions, and the document's list. -/
import Derived.Test.YtflkinglgnkchaaDoorRefA
import Derived.Lib.AppendStr
import Derived.Laws.AppendOwnNone
import Derived.Lib.BufferRead
namespace Go.Proofs.YtflkinglgnkchaaDoor
open Go.RowKit

theorem Sl.len {B : Nat} {w : World} {v : Value} {xs : List Value} (h : Sl B w v xs) : ∃ p cap, v = .slice p xs.length cap := by
  obtain ⟨p, cap, hv, _⟩ := h
  exact ⟨p, cap, hv⟩
theorem Sl.at {B : Nat} {w : World} {p : Option Addr} {n cap : Nat} {xs : List Value} (h : Sl B w (.slice p n cap) xs) (hne : xs ≠ []) :
    ∃ b off, p = some ⟨b, off, none⟩ ∧ b < B ∧ ∀ j, j < xs.length → w.cell? ⟨b, off + j, none⟩ = xs[j]? := by
  obtain ⟨p', cap', hv, _, hx⟩ := h
  injection hv with h1 h2 h3
  subst h1
  exact hx hne
theorem Sl.len' {B : Nat} {w : World} {p : Option Addr} {n cap : Nat} {xs : List Value} (h : Sl B w (.slice p n cap) xs) : xs.length = n := by
  obtain ⟨p', cap', hv, _, hx⟩ := h
  injection hv with h1 h2 h3
  exact h2.symm

def fewB (l : List (List UInt8)) : Bool := decide (l.length ≤ 200) && l.all fun s => decide (s.length ≤ 2000)
theorem few_take {l : List (List UInt8)} {k : Nat} (h : ∀ s ∈ l.take k, s.length ≤ 2000) (hk : k < l.length) (hs : l[k].length ≤ 2000) : ∀ s ∈ l.take (k + 1), s.length ≤ 2000 := by
  rw [List.take_succ_eq_append_getElem hk]
  intro s hm
  rcases List.mem_append.1 hm with hm | hm
  · exact h s hm
  · rw [List.mem_singleton.1 hm]; exact hs

set_option maxHeartbeats 1000000 in
theorem few_any (v : Value) (l : List (List UInt8)) (B : Nat) (w : World) (hv : Sl B w v (l.map vstr)) (hl : l.length ≤ maxLen) :
    Calls Tryd.prog 16 #[v] w fun e w' => e = .returned (.bool (fewB l)) ∧ w = w' := by
  unfold maxLen at hl
  obtain ⟨p, cap, rfl⟩ := hv.len
  have hlen : (l.map vstr).length = l.length := by simp
  rw [hlen] at hv ⊢
  by_cases hbig : 200 < l.length
  · have hf : fewB l = false := by simp [fewB]; omega
    rw [hf]
    go_enter Tryd.func16, Tryd.ntmps16
    go_wp2
    go_ret
    exact ⟨rfl, rfl⟩
  · go_enter Tryd.func16, Tryd.ntmps16
    go_wp2
    go_loop [3] (fun i => ∃ k : Nat, k ≤ l.length ∧ i = .int .i64 k ∧ ∀ s ∈ l.take k, s.length ≤ 2000) (fun i => l.length - (intOf i).toNat)
    case atStart => exact ⟨0, Nat.zero_le _, rfl, fun s hs => by simp at hs⟩
    case round =>
      obtain ⟨k, hk, rfl, hall⟩ := hrel
      have HALL := Lib.hid hall
      clear hall
      by_cases hlt : k < l.length
      · obtain ⟨b, off, rfl, _, hc⟩ := hv.at (by intro h; have := congrArg List.length h; simp at this; subst this; simp at hlt)
        have hcell : w.cell? ⟨b, off + k, none⟩ = some (.string ⟨⟨l[k]⟩⟩) := by rw [hc k (by simpa using hlt)]; simp [hlt]
        clear hc
        by_cases hs : l[k].length ≤ 2000
        · have HS := Lib.hid (few_take HALL.out hlt hs)
          have hs2 : ((⟨⟨l[k]⟩⟩ : ByteArray).size) ≤ 2000 := hs
          go_wp2
          go_round
          case rel => exact ⟨k + 1, by omega, by go_num, HS.out⟩
          case measure => simp [intOf]; omega
        · have hs2 : 2000 < ((⟨⟨l[k]⟩⟩ : ByteArray).size) := by show 2000 < l[k].length; omega
          have hf : fewB l = false := by
            have : l.all (fun s => decide (s.length ≤ 2000)) = false := by
              rw [List.all_eq_false]
              exact ⟨l[k], List.getElem_mem _, by simpa using hs⟩
            simp [fewB, this]
          have HF := Lib.hid hf
          clear hf
          go_wp2
          go_ret
          exact ⟨ret_bool HF.out.symm, rfl⟩
      · obtain rfl : k = l.length := by omega
        have hf : fewB l = true := by
          have h := HALL.out
          rw [List.take_length] at h
          simp only [fewB, Bool.and_eq_true, decide_eq_true_eq, List.all_eq_true]
          exact ⟨by omega, h⟩
        have HF := Lib.hid hf
        clear hf
        go_wp2
        go_ret
        exact ⟨ret_bool HF.out.symm, rfl⟩

theorem take_eq_step {la lb : List (List UInt8)} {k : Nat} (h : la.take k = lb.take k) (ha : k < la.length) (hb : k < lb.length) (he : la[k] = lb[k]) : la.take (k + 1) = lb.take (k + 1) := by
  rw [List.take_succ_eq_append_getElem ha, List.take_succ_eq_append_getElem hb, h, he]

set_option maxHeartbeats 2000000 in
theorem texts_any (va vb : Value) (la lb : List (List UInt8)) (B B' : Nat) (w : World) (hva : Sl B w va (la.map vstr)) (hvb : Sl B' w vb (lb.map vstr)) (hl : la.length ≤ maxLen) :
    Calls Tryd.prog 19 #[va, vb] w fun e w' => e = .returned (.bool (decide (la = lb))) ∧ ∃ n, w' = w.drewN n := by
  unfold maxLen at hl
  obtain ⟨p, cap, rfl⟩ := hva.len
  obtain ⟨p', cap', rfl⟩ := hvb.len
  have hlena : (la.map vstr).length = la.length := by simp
  have hlenb : (lb.map vstr).length = lb.length := by simp
  rw [hlena] at hva ⊢
  rw [hlenb] at hvb ⊢
  by_cases hne : la.length = lb.length
  · rw [← hne] at hvb ⊢
    have HNE := Lib.hid hne
    clear hne
    go_enter Tryd.func19, Tryd.ntmps19
    go_wp2
    go_loopw [5] (fun i wr => ∃ k n : Nat, k ≤ la.length ∧ i = .int .i64 k ∧ la.take k = lb.take k ∧ wr = w.drewN n) (fun i _ => la.length - (intOf i).toNat)
    case atStart => exact ⟨0, 0, Nat.zero_le _, rfl, by simp, rfl⟩
    case round =>
      obtain ⟨k, n, hk, rfl, htk, rfl⟩ := hrel
      have HTK := Lib.hid htk
      clear htk
      by_cases hlt : k < la.length
      · have hltb : k < lb.length := by have := HNE.out; omega
        obtain ⟨b, off, rfl, _, hc⟩ := hva.at (by intro h; have := congrArg List.length h; simp at this; subst this; simp at hlt)
        obtain ⟨b', off', rfl, _, hc'⟩ := hvb.at (by intro h; have := congrArg List.length h; simp at this; subst this; simp at hltb)
        have hcell : w.cell? ⟨b, off + k, none⟩ = some (.string ⟨⟨la[k]⟩⟩) := by rw [hc k (by simpa using hlt)]; simp [hlt]
        have hcell' : w.cell? ⟨b', off' + k, none⟩ = some (.string ⟨⟨lb[k]⟩⟩) := by rw [hc' k (by simpa using hltb)]; simp [hltb]
        have hi0 : (0 : Int) ≤ (k : Int) := Int.natCast_nonneg _
        have hi1 : (k : Int) < (la.length : Int) := by omega
        clear hc hc'
        have hEQ : ∀ h1 : k < la.length, ∀ h2 : k < lb.length, la[k]'h1 = lb[k]'h2 → la.take (k + 1) = lb.take (k + 1) := fun h1 h2 he => take_eq_step HTK.out h1 h2 he
        have HEQ := Lib.hid (fun he => hEQ hlt hltb he)
        have HNEQ := Lib.hid (show ¬ la[k] = lb[k] → ¬ la = lb from fun hn he => hn (by subst he; rfl))
        clear hEQ hva hvb
        generalize la[k] = x at *
        generalize lb[k] = y at *
        by_cases he : x = y
        · subst he
          go_wp2
          go_quiet (fail)
          go_wp2
          go_roundw
          case rel => exact ⟨k + 1, _, by omega, by go_num, HEQ.out trivial, rfl⟩
          case measure => simp [intOf]; omega
        · have hxy : (x == y) = false := by simpa using he
          have hf : decide (la = lb) = false := decide_eq_false (HNEQ.out he)
          have HF := Lib.hid hf
          clear he hf
          go_wp2
          go_quiet (fail)
          go_wp2
          go_ret
          exact ⟨ret_bool HF.out.symm, n + nq, by simp [World.drewN, Nat.add_assoc]⟩
      · have hkl : k = la.length := by omega
        have hf : decide (la = lb) = true := by
          have h := HTK.out
          rw [hkl, List.take_length] at h
          rw [decide_eq_true_eq]
          conv => rhs; rw [← List.take_length (l := lb), ← HNE.out]
          exact h
        have HF := Lib.hid hf
        clear hf hkl
        go_wp2
        go_ret
        exact ⟨ret_bool HF.out.symm, _, rfl⟩
  · have hf : decide (la = lb) = false := decide_eq_false (fun he => hne (by rw [he]))
    rw [hf]
    have hne2 : ((la.length : Int) != (lb.length : Int)) = true := by rw [bne_iff_ne]; omega
    clear hf hne
    go_enter Tryd.func19, Tryd.ntmps19
    go_wp2
    go_ret
    exact ⟨rfl, 0, rfl⟩

theorem infoByte : (Tryd.prog.info? 5).map (fun i => (i.zero, i.size, i.bytes)) = some (some (.int .u8 0), 1, 1) := by kernel_rfl

/-- Bytes that the call owns, as a text. -/
theorem conv_row (w : World) (B : Nat) (v : Value) (l : List UInt8) (h : w.ownsRow B 5 1 v l.length (Lib.byteCells l)) :
    (convert 47 9 v).run Tryd.prog w = .ok (.string ⟨⟨l⟩⟩) w := by
  obtain ⟨_, ⟨hv, hn⟩ | ⟨g, cap, cur, hv, _, hb, hcap, hmax, hsz, htake⟩⟩ := h
  · obtain rfl : l = [] := List.eq_nil_of_length_eq_zero hn
    rw [hv]
    exact Lib.run_convert_nil_bytes (P := Tryd.prog) w _ _ 5 0 Tryd.underlying47 Tryd.underlying5 Tryd.underlying9
  · rw [hv]
    refine run_convert_bytes_back (P := Tryd.prog) w _ _ 5 ⟨g, 0, none⟩ cap l Tryd.underlying47 Tryd.underlying5 Tryd.underlying9 ?_
    intro j hj
    have : (Lib.byteCells l)[j]? = cur[j]? := by rw [← htake, Nat.mul_one, List.getElem?_take, if_pos hj]; simp
    have hx : w.cell? (Addr.add ⟨g, 0, none⟩ j) = cur[j]? := by
      unfold Addr.add
      split
      · rename_i h0; subst h0; simp [World.cell?, hb]
      · simp [World.cell?, hb]
    rw [hx, ← this]
    simp [Lib.byteCells, hj]

set_option maxHeartbeats 2000000 in
set_option maxRecDepth 100000 in
theorem reflist_any (v : Value) (l : List (List UInt8)) (B0 : Nat) (w : World) (hv : Sl B0 w v (l.map vstr)) (hB0 : B0 ≤ w.heap.size) (hl : l.length ≤ maxLen) (hsum : (M.packs l).length ≤ 140737488355328)
    (heach : ∀ s, s ∈ l → s.length ≤ 9223372036854775000) :
    Calls Tryd.prog 18 #[v] w fun e w' => e = .returned (.string ⟨⟨M.pack (M.packs l)⟩⟩) ∧ Old w w' := by
  unfold maxLen at hl
  obtain ⟨i0, hi, hz0, hz1, hz2⟩ := info_parts infoByte
  obtain ⟨p, cap, rfl⟩ := hv.len
  have hlen : (l.map vstr).length = l.length := by simp
  rw [hlen] at hv ⊢
  have HSUM := Lib.hid hsum
  have HEACH := Lib.hid heach
  clear heach
  go_enter Tryd.func18, Tryd.ntmps18
  go_wp2
  go_loopw [3, 4] (fun o i wr => ∃ k : Nat, k ≤ l.length ∧ i = .int .i64 k ∧ wr.ownsRow w.heap.size 5 1 o (M.packs (l.take k)).length (Lib.byteCells (M.packs (l.take k))) ∧ Old w wr) (fun _ i _ => l.length - (intOf i).toNat)
  case atStart => exact ⟨0, Nat.zero_le _, rfl, World.ownsRow_nil _ _ _ _, Below.refl _ _⟩
  case round =>
    obtain ⟨k, hk, rfl, hown, ho⟩ := hrel
    by_cases hlt : k < l.length
    · obtain ⟨b, off, rfl, hbB, hc⟩ := hv.at (by intro h; have := congrArg List.length h; simp at this; subst this; simp at hlt)
      have hcell : wr.cell? ⟨b, off + k, none⟩ = some (.string ⟨⟨l[k]⟩⟩) := by
        rw [ho.cell (p := ⟨b, off + k, none⟩) (by show b < _; omega), hc k (by simpa using hlt)]; simp [hlt]
      clear hc
      have hp1 : M.packs (l.take (k + 1)) = M.packs (l.take k) ++ M.pack l[k] := by rw [List.take_succ_eq_append_getElem hlt, M.packs_snoc]
      have hle := M.packs_take l (k + 1)
      rw [hp1, List.length_append] at hle
      have HT := Lib.hid (rtext_any ⟨⟨l[k]⟩⟩ wr (HEACH.out l[k] (List.getElem_mem _)))
      have HP := Lib.hid hp1
      clear hp1
      generalize M.packs (l.take k) = pk at *
      generalize M.pack l[k] = x at *
      have hzx : (⟨⟨x⟩⟩ : ByteArray).size = x.length := rfl
      have HZ := Lib.hid hzx
      have hle2 : pk.length + x.length ≤ 140737488355328 := by have := HSUM.out; omega
      have HLE := Lib.hid hle2
      have hsz := ho.size
      clear hzx hle hle2 hsum
      go_wp2_with (first
        | (at_builtin; refine Lib.wpList_append_own_string _ rfl _ _ 47 9 rfl w.heap.size 5 i0 Tryd.underlying47 Tryd.underlying9 hi hz0 hz1 hz2 _ _ _ rfl hown1 ⟨⟨x⟩⟩ rfl ?c3 ?c4 ?c5 ?_)
        | ((with_reducible refine HT.out.mono ?_); rintro e w1 ⟨rfl, o1⟩; have hown1 := row_keep hown (Keep.of_old (S := fun _ => False) o1) (fun _ _ h => h)))
      case c3 => have := HLE.out; have := HZ.out; unfold maxLen; omega
      case c4 => have := HLE.out; have := HZ.out; omega
      case c5 => have := o1.size; omega
      intro v' w2 hown2 hgrow _
      have ho2 : Old w w2 := (Below.trans ho (o1.mono hsz)).grown hgrow (Nat.le_trans hsz o1.size) (fun g hg => row_from hown1 g hg)
      go_wp2
      go_roundw
      case rel => exact ⟨k + 1, by omega, by go_num, by rw [HP.out]; simpa [HZ.out, Lib.byteCells, Lib.strCells] using hown2, ho2⟩
      case measure => simp [intOf]; omega
    · obtain rfl : k = l.length := by omega
      rw [List.take_length] at hown
      have hconv := conv_row wr _ _ _ hown
      have HT := Lib.hid (rtext_any ⟨⟨M.packs l⟩⟩ wr (Nat.le_trans (show (M.packs l).length ≤ _ from hsum) (by decide)))
      have hsz := ho.size
      clear hsum
      go_wp2_with ((with_reducible refine HT.out.mono ?_); rintro e w1 ⟨rfl, o1⟩)
      go_ret
      exact ⟨rfl, Below.trans ho (o1.mono hsz)⟩
end Go.Proofs.YtflkinglgnkchaaDoor
