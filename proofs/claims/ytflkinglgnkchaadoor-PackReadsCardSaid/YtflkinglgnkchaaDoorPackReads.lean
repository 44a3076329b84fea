/- The law PackReads returns true at every bytes and every calls: what is taken up, call by call, or what is wrong first, is what the document says. Conditions: the row's own (the listed variables hold what the program's text lays). -/
import Derived.Test.YtflkinglgnkchaaDoorRefE
import Derived.Test.YtflkinglgnkchaaDoorLaid
import Derived.Test.YtflkinglgnkchaaDoorCards
import Derived.Test.YtflkinglgnkchaaDoorTie
namespace Go.Proofs.YtflkinglgnkchaaDoor
open Go.ChangeShapes Go.WideShapes Go.ChangeAt Go.ChangeMaps Go.RowKit

/-- The program's reader and the document's stand alike. -/
def Alike2 (r x : List UInt8 × Int) : Prop := r.2 = x.2 ∧ (x.2 = 0 → r.1 = x.1) ∧ (x.2 ≠ 0 → r.1 = []) ∧ r.1.length ≤ 100000 ∧ x.1.length ≤ 100000
theorem Alike2.next {r x : List UInt8 × Int} (h : Alike2 r x) : (nextS r).1 = (rtextS x).1 ∧ (nextS r).2.1 = decide ((rtextS x).2.2 = 0) ∧ Alike2 (nextS r).2.2 (rtextS x).2 := by
  obtain ⟨l, e⟩ := r
  obtain ⟨l', e'⟩ := x
  obtain ⟨h1, h2, h3, h4, h5⟩ := h
  simp only at h1 h2 h3 h4 h5
  subst h1
  by_cases he : e = 0
  · obtain rfl := h2 he
    subst he
    have hc := cut_len l
    by_cases hb : (M.cut l).2.2 = 0
    · have e1 : nextS (l, 0) = ((M.cut l).1, true, ((M.cut l).2.1, 0)) := by simp [nextS, hb]
      have e2 : rtextS (l, 0) = ((M.cut l).1, ((M.cut l).2.1, 0)) := by simp [rtextS, hb]
      rw [e1, e2]
      exact ⟨rfl, rfl, rfl, fun _ => rfl, fun h => absurd rfl h, by simp only; omega, by simp only; omega⟩
    · have e1 : nextS (l, 0) = ([], false, ([], (M.cut l).2.2)) := by simp [nextS, hb]
      have e2 : rtextS (l, 0) = ([], (l, (M.cut l).2.2)) := by simp [rtextS, hb]
      rw [e1, e2]
      exact ⟨rfl, by simp [hb], rfl, fun h => absurd h hb, fun _ => rfl, by simp, h5⟩
  · have e1 : nextS (l, e) = ([], false, (l, e)) := by simp [nextS, he]
    have e2 : rtextS (l', e) = ([], (l', e)) := by simp [rtextS, he]
    rw [e1, e2]
    exact ⟨rfl, by simp [he], rfl, fun h => absurd h he, fun _ => h3 he, h4, h5⟩
theorem Alike2.num {r x : List UInt8 × Int} (h : Alike2 r x) : (numS r).1 = (rnumS x).1 ∧ Alike2 (numS r).2 (rnumS x).2 := by
  obtain ⟨h1, h2, h3⟩ := h.next
  unfold numS rnumS
  rw [h2, ← h1]
  by_cases he : (rtextS x).2.2 = 0
  · rw [if_neg (by simp [he]), if_neg (by simp [he])]
    cases M.parse (nextS r).1 with
    | some v => exact ⟨rfl, h3⟩
    | none => exact ⟨rfl, rfl, fun h => absurd h (show ¬ (11 : Int) = 0 by decide), fun _ => rfl, by simp, h3.2.2.2.2⟩
  · rw [if_pos (by simp [he]), if_pos he]
    exact ⟨rfl, h3⟩
theorem Alike2.list {r x : List UInt8 × Int} (h : Alike2 r x) : (listS r).1 = (rlistS x).1 ∧ Alike2 (listS r).2 (rlistS x).2 := by
  obtain ⟨h1, h2, h3⟩ := h.next
  unfold listS rlistS
  rw [h2, ← h1]
  by_cases he : (rtextS x).2.2 = 0
  · rw [if_neg (by simp [he]), if_neg (by simp [he])]
    cases M.unpk (nextS r).1 with
    | some v => exact ⟨rfl, h3⟩
    | none => exact ⟨rfl, rfl, fun h => absurd h (show ¬ (11 : Int) = 0 by decide), fun _ => rfl, by simp, h3.2.2.2.2⟩
  · rw [if_pos (by simp [he]), if_pos he]
    exact ⟨rfl, h3⟩
theorem Alike2.left {r x : List UInt8 × Int} (h : Alike2 r x) : (r.1.length : Int) = if x.2 ≠ 0 then 0 else x.1.length := by
  by_cases he : x.2 = 0
  · rw [if_neg (by simp [he]), h.2.1 he]
  · rw [if_pos he, h.2.2.1 he]; rfl
theorem Alike2.ends {r x : List UInt8 × Int} (h : Alike2 r x) : endOf r = endOf x := by
  unfold endOf
  rw [h.1]
  by_cases he : x.2 = 0
  · simp only [he, ne_eq, not_true_eq_false, if_false, h.2.1 he]
  · rw [if_pos he, if_pos he]
theorem Sl.keep1 {B : Nat} {w w' : World} {v : Value} {xs : List Value} {b : Nat} (h : Sl B w v xs) (k : Keep (· = b) w w') (hf : ∀ g, v.ownBlock = some g → b < g) : Sl B w' v xs :=
  h.keep k (fun g hg he => by have := hf g hg; omega)

theorem unp_len : ∀ (n : Nat) (l : List UInt8) (L : List (List UInt8)), M.unp n l = some L → L.length ≤ n
  | 0, l, L, h => by
      simp only [M.unp, Option.some.injEq] at h
      subst h; simp
  | n + 1, l, L, h => by
      simp only [M.unp] at h
      split at h
      · simp only [Option.some.injEq] at h; subst h; simp
      · split at h
        · cases h
        · obtain ⟨L', h1, rfl⟩ := Option.map_eq_some_iff.1 h
          have := unp_len n _ _ h1
          simp; omega
theorem listS_len (r : List UInt8 × Int) : (listS r).1.length ≤ r.1.length := by
  have h := nextS_len r
  unfold listS
  split
  · simp
  · cases hu : M.unpk (nextS r).1 with
    | none => simp
    | some L =>
      have := unp_len _ _ _ hu
      simp only; omega

/-- The two readers in their blocks. -/
def Two (w0 : World) (b : Nat) (r x : List UInt8 × Int) (w : World) : Prop := Rd w b r ∧ Rr w (b + 1) x ∧ Alike2 r x ∧ Old w0 w ∧ w0.heap.size ≤ b

/-- What is asked of the two readers behind each call. -/
def Asked (b : Nat) (n e : Int) (w : World) : Prop :=
  (Calls Tryd.prog 27 #[.pointer (some ⟨b, 0, none⟩)] w fun e w' => e = .returned (.int .i64 n) ∧ w = w') ∧
  (Calls Tryd.prog 28 #[.pointer (some ⟨b + 1, 0, none⟩)] w fun e w' => e = .returned (.int .i64 n) ∧ w = w') ∧
  (Calls Tryd.prog 29 #[.pointer (some ⟨b, 0, none⟩)] w fun e' w' => e' = .returned (.int .i64 e) ∧ w = w') ∧
  (Calls Tryd.prog 30 #[.pointer (some ⟨b + 1, 0, none⟩)] w fun e' w' => e' = .returned (.int .i64 e) ∧ w = w')
theorem asked {b : Nat} {r x : List UInt8 × Int} {w : World} (hr : Rd w b r) (hx : Rr w (b + 1) x) (h : Alike2 r x) : ∃ n e, Asked b n e w := by
  refine ⟨r.1.length, endOf r, (left_any b ⟨⟨r.1⟩⟩ w (Blk.cellN hr 0 rfl)).mono (fun e w' h => ⟨h.1, h.2.symm⟩), ?_, (end_any b r w hr).mono (fun e w' h => ⟨h.1, h.2.symm⟩), ?_⟩
  · refine (rleft_any (b + 1) x w hx).mono (fun e w' h' => ⟨h'.1.trans (ret_int ?_), h'.2⟩)
    rw [h.left]
    split <;> rfl
  · rw [h.ends]; exact rend_any (b + 1) x w hx

set_option maxHeartbeats 4000000 in
set_option maxRecDepth 100000 in
theorem packReads_few (w : World) (s : ByteArray) (hs : s.size ≤ 100000) (v : Value) (l : List Int) (hv : Sl w.heap.size w v (l.map (Value.int .i64))) (hl : l.length ≤ maxLen) (ht : Tab w) (he : Errs w)
    (hG : 2 < w.heap.size ∧ 0 < w.heap.size ∧ 1 < w.heap.size) :
    Calls Tryd.prog 6 #[.string s, v] w fun e w' => e = .returned (.bool true) ∧ Old w w' := by
  unfold maxLen at hl
  have g1 := Lib.hid (fun b (w1 : World) (r : List UInt8 × Int) (h : Rd w1 b r) (hs : r.1.length ≤ 100000) => text_any b r w1 h (by unfold maxLen; omega))
  have g2 := Lib.hid (fun b (w1 : World) (r : List UInt8 × Int) (h : Rr w1 b r) (hs : r.1.length ≤ 100000) => rtext_any' b r w1 h (by unfold maxLen; omega))
  have g3 := Lib.hid (fun b (w1 : World) (r : List UInt8 × Int) (h : Rd w1 b r) (hs : r.1.length ≤ 100000) (o1 : Old w w1) (hb : w.heap.size ≤ b) => rnum_any b r w1 h (by omega) (ht.old o1) (he.old o1) (by omega) (by omega) (by omega))
  have g4 := Lib.hid (fun b (w1 : World) (r : List UInt8 × Int) (h : Rr w1 b r) (hs : r.1.length ≤ 100000) => rrnum_any b r w1 h (by unfold maxLen; omega))
  have g5 := Lib.hid (fun b (w1 : World) (r : List UInt8 × Int) (h : Rd w1 b r) (hs : r.1.length ≤ 100000) => rlist_any b r w1 h (by omega))
  have g6 := Lib.hid (fun b (w1 : World) (r : List UInt8 × Int) (h : Rr w1 b r) (hs : r.1.length ≤ 100000) => rrlist_any b r w1 h (by omega))
  have g7 := Lib.hid (fun (w1 : World) (o1 : Old w w1) => awake_any w1 (ht.old o1))
  have hzs : s = ⟨⟨s.data.toList⟩⟩ := rfl
  have hs2 : s.data.toList.length ≤ 100000 := by simpa using hs
  generalize s.data.toList = d at *
  subst hzs
  obtain ⟨p, cap, rfl⟩ := hv.len
  have hlen : (l.map (Value.int .i64)).length = l.length := by simp
  rw [hlen] at hv ⊢
  go_enter Tryd.func6, Tryd.ntmps6
  go_wp2_with ((with_reducible refine (read_any _ _).mono ?_); rintro e w1 ⟨rfl, rfl⟩)
  have hr0 : Rd ((w.alloc (.cells #[.string ⟨⟨d⟩⟩, .int .i64 0] 55)).alloc (.cells #[.string ⟨⟨d⟩⟩, .int .i64 0] 38)) w.heap.size (d, 0) := (Blk.new w _ _).alloc _
  have hx0 : Rr ((w.alloc (.cells #[.string ⟨⟨d⟩⟩, .int .i64 0] 55)).alloc (.cells #[.string ⟨⟨d⟩⟩, .int .i64 0] 38)) (w.heap.size + 1) (d, 0) := by
    have h := Blk.new (w.alloc (.cells #[.string ⟨⟨d⟩⟩, .int .i64 0] 55)) #[.string ⟨⟨d⟩⟩, .int .i64 0] 38
    rw [World.size_alloc] at h
    exact h
  have o0 : Old w ((w.alloc (.cells #[.string ⟨⟨d⟩⟩, .int .i64 0] 55)).alloc (.cells #[.string ⟨⟨d⟩⟩, .int .i64 0] 38)) := (Old.alloc w _).trans (Old.alloc _ _)
  have htwo : Two w w.heap.size (d, 0) (d, 0) ((w.alloc (.cells #[.string ⟨⟨d⟩⟩, .int .i64 0] 55)).alloc (.cells #[.string ⟨⟨d⟩⟩, .int .i64 0] 38)) :=
    ⟨hr0, hx0, ⟨rfl, fun _ => rfl, fun h => absurd rfl h, hs2, hs2⟩, o0, Nat.le_refl _⟩
  clear hr0 hx0 o0
  go_loopw [7] (fun i wr => ∃ (k : Nat) (r x : List UInt8 × Int), k ≤ l.length ∧ i = .int .i64 k ∧ Two w w.heap.size r x wr) (fun i _ => l.length - (intOf i).toNat)
  case atStart => exact ⟨0, _, _, Nat.zero_le _, rfl, htwo⟩
  case round =>
    obtain ⟨k, r, x, hk, rfl, htw⟩ := hrel
    by_cases hlt : k < l.length ∧ k < 100
    · obtain ⟨hlt, h100⟩ := hlt
      obtain ⟨hr, hx, hal, ho, hN⟩ := htw
      have hlr := hal.2.2.2.1
      have hlx := hal.2.2.2.2
      obtain ⟨b, off, rfl, hbB, hc⟩ := hv.at (by intro h; have := congrArg List.length h; simp at this; subst this; simp at hlt)
      have hcell : wr.cell? ⟨b, off + k, none⟩ = some (.int .i64 l[k]) := by
        rw [ho.cell (p := ⟨b, off + k, none⟩) hbB, hc k (by simpa using hlt)]; simp [hlt]
      clear hc hv htwo
      have hsz := ho.size
      have hNs := hr.lt
      obtain ⟨n1, n2, n3⟩ := hal.next
      obtain ⟨m1, m2⟩ := hal.num
      obtain ⟨l1, l2⟩ := hal.list
      have C1 := g1.out _ _ _ hr hlr
      have C3 := g3.out _ _ _ hr hlr ho hN
      have C5 := g5.out _ _ _ hr hlr
      have D2 := fun w1 (h : Rr w1 (w.heap.size + 1) x) => g2.out _ w1 _ h hlx
      have D4 := fun w1 (h : Rr w1 (w.heap.size + 1) x) => g4.out _ w1 _ h hlx
      have D6 := fun w1 (h : Rr w1 (w.heap.size + 1) x) => g6.out _ w1 _ h hlx
      rw [← n1] at D2
      rw [← m1] at D4
      unfold ListPost at C5
      unfold ListPostR at D6
      rw [← l1] at D6
      have HL : Hid (((listS r).1.map vstr).length ≤ maxLen) := by
        have := listS_len r
        show ((listS r).1.map vstr).length ≤ maxLen
        rw [List.length_map]; unfold maxLen; omega
      clear n1 n2 m1 l1 hal
      generalize (nextS r).1 = t at *
      generalize (nextS r).2.2 = r1 at *
      generalize (rtextS x).2 = x1 at *
      generalize (numS r).1 = tn at *
      generalize (numS r).2 = r2 at *
      generalize (rnumS x).2 = x2 at *
      generalize (listS r).1 = tl at *
      generalize (listS r).2 = r3 at *
      generalize (rlistS x).2 = x3 at *
      have HC1 := Lib.hid C1
      clear C1
      have HC3 := Lib.hid C3
      clear C3
      have HC5 := Lib.hid C5
      clear C5
      have HD2 := Lib.hid D2
      clear D2
      have HD4 := Lib.hid D4
      clear D4
      have HD6 := Lib.hid D6
      clear D6
      generalize l[k] = c at *
      have tail : ∀ (r' x' : List UInt8 × Int) (w' : World), Rd w' w.heap.size r' → Rr w' (w.heap.size + 1) x' → Alike2 r' x' → Old w w' → Two w w.heap.size r' x' w' := fun r' x' w' a1 a2 a3 a4 => ⟨a1, a2, a3, a4, Nat.le_refl _⟩
      have TAIL := Lib.hid tail
      clear tail
      by_cases hc0 : c = 0
      · subst hc0
        go_wp2_with (first
          | ((with_reducible refine HC1.out.mono ?_); rintro e w1 ⟨rfl, r1', k1⟩; have x1' := hx.keep k1 (by omega))
          | ((with_reducible refine (HD2.out _ x1').mono ?_); rintro e w2 ⟨rfl, x2', k2⟩; have r2' := r1'.keep k2 (by omega)))
        obtain ⟨an, ae, ask1, ask2, ask3, ask4⟩ := asked r2' x2' n3
        have AS1 := Lib.hid ask1
        have AS2 := Lib.hid ask2
        have AS3 := Lib.hid ask3
        have AS4 := Lib.hid ask4
        clear ask1 ask2 ask3 ask4
        have o2 : Old w w2 := (Below.trans ho (k1.below ho.size (fun k hk => by omega))).trans (k2.below (Nat.le_trans ho.size k1.size) (fun k hk => by omega))
        go_wp2_with (first
          | ((with_reducible refine AS1.out.mono ?_); rintro e w3 ⟨rfl, rfl⟩)
          | ((with_reducible refine AS2.out.mono ?_); rintro e w3 ⟨rfl, rfl⟩)
          | ((with_reducible refine AS3.out.mono ?_); rintro e w3 ⟨rfl, rfl⟩)
          | ((with_reducible refine AS4.out.mono ?_); rintro e w3 ⟨rfl, rfl⟩))
        go_roundw
        case rel => exact ⟨k + 1, _, _, by omega, by go_num, TAIL.out _ _ _ r2' x2' n3 o2⟩
        case measure => simp [intOf]; omega
      · by_cases hc1 : c = 1
        · subst hc1
          go_wp2_with (first
            | ((with_reducible refine HC3.out.mono ?_); rintro e w1 ⟨rfl, r1', k1⟩; have x1' := hx.keep k1 (by omega))
            | ((with_reducible refine (HD4.out _ x1').mono ?_); rintro e w2 ⟨rfl, x2', k2⟩; have r2' := r1'.keep k2 (by omega)))
          obtain ⟨an, ae, ask1, ask2, ask3, ask4⟩ := asked r2' x2' m2
          have AS1 := Lib.hid ask1
          have AS2 := Lib.hid ask2
          have AS3 := Lib.hid ask3
          have AS4 := Lib.hid ask4
          clear ask1 ask2 ask3 ask4
          have o2 : Old w w2 := (Below.trans ho (k1.below ho.size (fun k hk => by omega))).trans (k2.below (Nat.le_trans ho.size k1.size) (fun k hk => by omega))
          go_wp2_with (first
            | ((with_reducible refine AS1.out.mono ?_); rintro e w3 ⟨rfl, rfl⟩)
            | ((with_reducible refine AS2.out.mono ?_); rintro e w3 ⟨rfl, rfl⟩)
            | ((with_reducible refine AS3.out.mono ?_); rintro e w3 ⟨rfl, rfl⟩)
            | ((with_reducible refine AS4.out.mono ?_); rintro e w3 ⟨rfl, rfl⟩))
          go_roundw
          case rel => exact ⟨k + 1, _, _, by omega, by go_num, TAIL.out _ _ _ r2' x2' m2 o2⟩
          case measure => simp [intOf]; omega
        · have hb0 : (c == 0) = false := by simpa using hc0
          have hb1 : (c == 1) = false := by simpa using hc1
          go_wp2_with fail
          refine HC5.out.mono ?_
          rintro e w1 ⟨v1, rfl, s1, f1, r1', k1⟩
          have x1' := hx.keep k1 (by omega)
          go_wp2_with fail
          refine (HD6.out _ x1').mono ?_
          rintro e w2 ⟨v2, rfl, s2, _, x2', k2⟩
          have r2' := r1'.keep k2 (by omega)
          have s1' := s1.keep1 k2 (fun g hg => by have := f1 g hg; have := hx.lt; omega)
          have HT := Lib.hid (texts_any v1 v2 tl tl _ _ w2 s1' s2 (by simpa using HL.out))
          have hd : decide (tl = tl) = true := decide_eq_true rfl
          rw [hd] at HT
          have o2 : Old w w2 := (Below.trans ho (k1.below ho.size (fun k hk => by omega))).trans (k2.below (Nat.le_trans ho.size k1.size) (fun k hk => by omega))
          clear hd s1 s1' s2 f1
          go_wp2_with ((with_reducible refine HT.out.mono ?_); rintro e w3 ⟨rfl, n3', rfl⟩)
          obtain ⟨an, ae, ask1, ask2, ask3, ask4⟩ := asked (r2'.old (Old.drewN w2 n3')) (x2'.old (Old.drewN w2 n3')) l2
          have AS1 := Lib.hid ask1
          have AS2 := Lib.hid ask2
          have AS3 := Lib.hid ask3
          have AS4 := Lib.hid ask4
          clear ask1 ask2 ask3 ask4
          have r3' := r2'.old (Old.drewN w2 n3')
          have x3' := x2'.old (Old.drewN w2 n3')
          have o3 : Old w (w2.drewN n3') := o2.trans (Old.drewN _ _)
          go_wp2_with (first
            | ((with_reducible refine AS1.out.mono ?_); rintro e w3 ⟨rfl, rfl⟩)
            | ((with_reducible refine AS2.out.mono ?_); rintro e w3 ⟨rfl, rfl⟩)
            | ((with_reducible refine AS3.out.mono ?_); rintro e w3 ⟨rfl, rfl⟩)
            | ((with_reducible refine AS4.out.mono ?_); rintro e w3 ⟨rfl, rfl⟩))
          go_roundw
          case rel => exact ⟨k + 1, _, _, by omega, by go_num, TAIL.out _ _ _ r3' x3' l2 o3⟩
          case measure => simp [intOf]; omega
    · have ho := htw.2.2.2.1
      have HA := Lib.hid (g7.out _ ho)
      have hor : ¬ k < l.length ∨ (k < l.length ∧ ¬ k < 100) := by omega
      rcases hor with h1 | ⟨h1, h2⟩
      all_goals
        go_wp2_with ((with_reducible refine HA.out.mono ?_); rintro e w3 ⟨rfl, o3⟩)
        go_ret
        exact ⟨rfl, ho.trans o3⟩

theorem packReads_walk (w : World) (s : ByteArray) (_hs : s.size ≤ maxLen) (v : Value) (l : List Int) (hv : Sl w.heap.size w v (l.map (Value.int .i64))) (hl : l.length ≤ maxLen) (_hb : ∀ n, n ∈ l → -9223372036854775808 ≤ n ∧ n ≤ 9223372036854775807) (ht : Tab w) (he : Errs w) :
    Calls Tryd.prog 6 #[.string s, v] w fun e w' => e = .returned (.bool true) ∧ Old w w' := by
  by_cases hs : s.size ≤ 100000
  · exact packReads_few w s hs v l hv hl ht he ⟨var_lt tab_num ht, var_lt errs_syntax he.1.choose_spec.choose_spec, var_lt errs_range he.2.choose_spec.choose_spec⟩
  · have hs' : 100000 < s.size := by omega
    go_enter Tryd.func6, Tryd.ntmps6
    go_wp2_with ((with_reducible refine (awake_any _ ht).mono ?_); rintro e w1 ⟨rfl, o1⟩)
    go_ret
    exact ⟨rfl, o1⟩

theorem packReads_open {H : Type} {enc : TypeId × Value → H} {Q : Ending → World → Prop} (W : World) (base : Nat) (args : Array Value) (ds : List (DataW H)) (p : List MemPlace) (hL : laidMetH Tryd.prog Rows.packReadsRow.laid W)
    (hval : ∀ (j : Nat) t v, (#[9, 32] : Array TypeId)[j]? = some t → args[j]? = some v → Value.okWide Tryd.prog W .any base t v)
    (hA : DataW.TrodAll enc Tryd.prog W 0 (fun _ => true) true [9, 32] args.toList ds p) (fin : ds.length = 2 → ∀ (e : Ending) (W' : World), e = .returned (.bool true) ∧ Old W W' → Q e W') :
    Calls Tryd.prog 6 args W Q := by
  rw [MakeChecks.laidMetH_plain _ _ _ (by kernel_rfl)] at hL
  have ft := tab_of hL (by simp [Rows.packReadsRow])
  have fe := errs_of hL (by simp [Rows.packReadsRow]) (by simp [Rows.packReadsRow])
  obtain ⟨v0, v1, d0, d1, p0, p1, rfl, rfl, _, hd0, hd1⟩ := trodAll_two hA
  obtain ⟨s0, rfl, rfl, rfl, hs0⟩ := open_string Tryd.underlying9 (hval 0 9 v0 rfl rfl) hd0
  obtain ⟨l1, hv1, hl1, hs1⟩ := open_numbers Tryd.underlying32 (hval 1 32 v1 rfl rfl) hd1
  exact (packReads_walk W s0 hs0 v1 l1 hv1 hl1 hs1 ft fe).mono (fin rfl)
theorem packReads_params : Tryd.f6.params = #[9, 32] := rfl
theorem packReads_door (os : Os) (args : Array Value) : laidMetH Tryd.prog Rows.packReadsRow.laid ((World.doorLaid Tryd.prog 400 os).forCall (fun _ _ => 0) ⟨#[], args, []⟩).memory :=
  laidMetH_of_parts3 (fuel := 8) (laidMet_of_run' 8 (by kernel_rfl) (by kernel_rfl)) (by kernel_rfl) (by kernel_rfl)
theorem packReads_fn {H : Type} (ds : List (DataW H)) (h : ds.length = 2) : Rows.packReadsSpec.fn H ds = { results := [.lit (.bool true)], args := ds } := by
  match ds, h with
  | [_, _], _ => rfl
theorem packReads_reads : ∀ t ∈ Tryd.f6.params.toList, Tryd.prog.readableRec t = true ∧ t < Tryd.prog.types.size := by
  rw [packReads_params]; intro t ht; simp at ht; rcases ht with rfl | rfl <;> exact ⟨by kernel_rfl, of_decide_eq_true (by kernel_rfl)⟩
set_option maxRecDepth 100000 in
theorem packReads_lifted (os : Os) (started : os.Started) (H : Type) (enc : TypeId × Value → H) :
    ReturnsInHanded {} Tryd.checked os 6 .any (fun w args => (Rows.packReadsSpec.pre enc Tryd.prog Tryd.f6 [] false w args ∧ laidMetH Tryd.prog Rows.packReadsRow.laid w) ∧ sizedMet enc Tryd.prog Tryd.f6 (OpenSpec.ofChange Rows.packReadsSpec) false w args)
      (Rows.packReadsSpec.post enc Tryd.prog Tryd.f6 false true false false) := by
  refine returnsInHanded_of_change_and (C := Tryd.checked) (X := fun w _ => laidMetH Tryd.prog Rows.packReadsRow.laid w) (fun _ _ _ hh h => h.of_heap hh) own started (by kernel_rfl) Tryd.func6
    (ChangeSpec.witness_shaped (enc := enc) (C := Tryd.checked) (os := os) (X := fun w _ => laidMetH Tryd.prog Rows.packReadsRow.laid w) false (World.doorLaid Tryd.prog 400 os) #[.string ⟨#[]⟩, .slice none 0 0] 8 rfl (World.shaped_of_RefB (by kernel_rfl) (by kernel_rfl)) (by kernel_rfl) (by kernel_rfl) (by kernel_rfl) (packReads_door os _)) ?_
  intro W base args ds gs before hval0 hW _ hreach hL _
  have hval : ∀ (j : Nat) t v, Tryd.f6.params[j]? = some t → args[j]? = some v → Value.okWide Tryd.prog W .any base t v := hval0
  have hW' := hW
  obtain ⟨p, q, hA0, hV, hbef, hfz, hnd⟩ := hW
  have hA : DataW.TrodAll enc Tryd.prog W 0 (fun _ => true) true Tryd.f6.params.toList args.toList ds p := hA0
  have hgs : gs = [] := by cases gs with | nil => rfl | cons g r => exact absurd hV (by intro h; cases h)
  subst hgs
  have fin : ds.length = 2 → ∀ (e : Ending) (W' : World), e = .returned (.bool true) ∧ Old W W' → ∃ v, e = .returned v ∧ Rows.packReadsSpec.post enc Tryd.prog Tryd.f6 false true false false W args v W' := by
    rintro hd e W' ⟨rfl, hb⟩
    exact ⟨_, rfl, law_post hW' rfl packReads_reads rfl (by rw [List.append_nil]; exact packReads_fn ds hd) hb⟩
  rw [packReads_params] at hA hval
  exact packReads_open W base args ds p hL hval hA fin

theorem packReads_holds : Rows.PackReadsSaid :=
  OpenClaim.holds_of_wide 6 Tryd.f6 rfl rfl rfl rfl rfl rfl rfl ⟨rfl, rfl, rfl, rfl, rfl⟩ rfl rfl rfl rfl rfl (by kernel_rfl) Tryd.func6 (by kernel_rfl)
    (of_decide_eq_true (by kernel_rfl)) (by unfold Func.isWrapper; first | (rw [if_pos (by decide +kernel)]; kernel_rfl) | (rw [if_neg (by decide +kernel)]; exact ⟨rfl, rfl⟩))
    (fun os started H enc _ => packReads_lifted os started H enc)
theorem packReads_card : Rows.PackReadsCardSaid :=
  Claim7.holds_tied_plain_at .later [] Rows.packReadsCard.laidKinds true Rows.packReadsCard.stood.harness true
    packReads_holds (fun _ h => by cases h) (by kernel_rfl) (fun _ h => by cases h) packReads_row_tie rfl ⟨rfl, rfl⟩ (by kernel_rfl) rfl
    (fun f fn hf hfn => by
      obtain rfl : f = 6 := Option.some.inj ((show Tryd.prog.funcNamed Rows.packReadsRow.func = some 6 by kernel_rfl).symm.trans hf) |>.symm
      obtain rfl : fn = Tryd.f6 := (Option.some.inj (Tryd.func6.symm.trans hfn)).symm
      exact ⟨by kernel_rfl, fun j t ht => by
        rw [packReads_params] at ht
        have hm : t ∈ [9, 32] := by simpa using Array.mem_of_getElem? ht
        have hall : ([9, 32].all fun u => !Tryd.prog.wantsStandIn u) = true := by kernel_rfl
        exact (show Tryd.prog.wantsStandIn t = false by simpa using List.all_eq_true.1 hall t hm)⟩)
    (by kernel_rfl)
#print axioms packReads_card
end Go.Proofs.YtflkinglgnkchaaDoor
