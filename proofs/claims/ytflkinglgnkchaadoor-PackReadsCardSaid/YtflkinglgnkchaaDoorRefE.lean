/- The document's reader: its next list. -/
import Derived.Test.YtflkinglgnkchaaDoorRefD
namespace Go.Proofs.YtflkinglgnkchaaDoor
open Go.RowKit

/-- What the document's next list is, and its reader behind it. -/
def rlistS (r : List UInt8 × Int) : List (List UInt8) × (List UInt8 × Int) :=
  if (rtextS r).2.2 ≠ 0 then ([], (rtextS r).2) else match M.unpk (rtextS r).1 with
    | some l => (l, (rtextS r).2)
    | none => ([], ((rtextS r).2.1, 11))

def TakenR (t : List UInt8) (acc : List (List UInt8)) (r : List UInt8 × Int) : Prop :=
  (r.2 = 0 ∧ M.unpk t = (M.unpk r.1).map (acc ++ ·) ∧ acc.length + r.1.length ≤ t.length) ∨ (r.2 ≠ 0 ∧ M.unpk t = none ∧ acc.length ≤ t.length + 1)
theorem TakenR.start (t : List UInt8) : TakenR t [] (t, 0) := Or.inl ⟨rfl, by simp, by simp⟩
def rm (r : List UInt8 × Int) : Nat := if r.2 = 0 then r.1.length + 1 else 0
theorem TakenR.step {t : List UInt8} {acc : List (List UInt8)} {r : List UInt8 × Int} (h : TakenR t acc r) (hne : r.1 ≠ []) (h0 : r.2 = 0) :
    TakenR t (acc ++ [(rtextS r).1]) (rtextS r).2 ∧ rm (rtextS r).2 < rm r ∧ acc.length ≤ t.length := by
  obtain ⟨l, x⟩ := r
  simp only at h0 hne
  subst h0
  rcases h with ⟨_, h1, h2⟩ | ⟨h0, _⟩
  · simp only at h1 h2
    have hpos : 0 < l.length := List.length_pos_iff.2 hne
    by_cases hc : (M.cut l).2.2 = 0
    · have e : rtextS (l, 0) = ((M.cut l).1, ((M.cut l).2.1, 0)) := by simp [rtextS, hc]
      have hs := M.cut_shorter hc
      rw [e]
      refine ⟨Or.inl ⟨rfl, ?_, ?_⟩, by simp [rm]; omega, by omega⟩
      · rw [h1, M.unpk_ok hc, Option.map_map]
        congr 1; funext x; simp
      · simp; omega
    · have e : rtextS (l, 0) = ([], (l, (M.cut l).2.2)) := by simp [rtextS, hc]
      rw [e]
      refine ⟨Or.inr ⟨hc, ?_, ?_⟩, by simp [rm, hc], by omega⟩
      · rw [h1, M.unpk_bad hne hc]; rfl
      · simp; omega
  · exact absurd rfl h0

def restR (w : World) (b : Nat) : Nat := match w.cell? ⟨b, 0, none⟩, w.cell? ⟨b, 1, none⟩ with | some (.string s), some (.int _ e) => if e = 0 then s.size + 1 else 0 | _, _ => 0
theorem Rr.lt {w : World} {b : Nat} {r : List UInt8 × Int} (h : Rr w b r) : b < w.heap.size := Blk.lt h
theorem Rr.len {w : World} {b : Nat} {r : List UInt8 × Int} (h : Rr w b r) : restR w b = rm r := by
  unfold restR
  rw [Blk.cellN h 0 rfl, Blk.cellN h 1 rfl]
  rfl

/-- What the document's next list leaves. -/
def ListPostR (b : Nat) (x : List (List UInt8) × (List UInt8 × Int)) (w : World) (e : Ending) (w' : World) : Prop :=
  ∃ v, e = .returned v ∧ Sl w'.heap.size w' v (x.1.map vstr) ∧ (∀ g, v.ownBlock = some g → w.heap.size ≤ g) ∧ Rr w' b x.2 ∧ Keep (· = b) w w'
theorem ListPostR.nil {b : Nat} {r : List UInt8 × Int} {w w' : World} (h : Rr w' b r) (k : Keep (· = b) w w') : ListPostR b ([], r) w (.returned (.slice none 0 0)) w' :=
  ⟨_, rfl, ⟨none, 0, rfl, fun _ => rfl, fun h => absurd rfl h⟩, fun g hg => (by cases hg), h, k⟩

set_option maxHeartbeats 2000000 in
set_option maxRecDepth 100000 in
theorem rrlist_any (b : Nat) (r : List UInt8 × Int) (w : World) (h : Rr w b r) (hs : r.1.length ≤ 1099511627776) :
    Calls Tryd.prog 26 #[.pointer (some ⟨b, 0, none⟩)] w (ListPostR b (rlistS r) w) := by
  obtain ⟨i0, hi, hz0, hz1, hz2⟩ := info_parts infoString
  have hlen := rtextS_len r
  have HN := Lib.hid (rtext_any' b r w h (by unfold maxLen; omega))
  unfold rlistS
  have hT0 : (rtextS r).2.2 ≠ 0 → (rtextS r).1 = [] := by
    unfold rtextS
    split
    · intro _; rfl
    · split
      · intro _; rfl
      · intro h; exact absurd rfl h
  have HT0 := Lib.hid hT0
  clear hT0
  generalize rtextS r = n at *
  obtain ⟨t, l, y⟩ := n
  simp only at hlen HT0 ⊢
  have hlb : l.length ≤ 1099511627776 := by omega
  have htb : t.length ≤ 1099511627776 := by omega
  by_cases hy : y = 0
  · subst hy
    simp only [ne_eq, not_true_eq_false, if_false]
    generalize hx : (match M.unpk t with | some L => (L, (l, (0 : Int))) | none => ([], (l, 11)) : List (List UInt8) × (List UInt8 × Int)) = x
    have HX := Lib.hid hx
    have HTB := Lib.hid htb
    clear hx hs hlen hlb htb
    go_enter Tryd.func26, Tryd.ntmps26
    go_wp2_with ((with_reducible refine HN.out.mono ?_); rintro e w1 ⟨rfl, h1, k1⟩)
    have hr0 : Rr (w1.alloc (.cells #[.string ⟨⟨t⟩⟩, .int .i64 0] 38)) w1.heap.size (t, 0) := Blk.new w1 _ _
    go_loopw [5] (fun v wr => ∃ acc r2, wr.ownsRow (w1.heap.size + 1) 9 1 v acc.length (acc.map vstr) ∧ Rr wr w1.heap.size r2 ∧ TakenR t acc r2 ∧ Old w1 wr) (fun _ wr => restR wr w1.heap.size)
    case atStart => exact ⟨[], (t, 0), World.ownsRow_nil _ _ _ _, hr0, TakenR.start t, Old.alloc _ _⟩
    case round =>
      obtain ⟨acc, r2, hown, hr2, htk, ho⟩ := hrel
      have hb1 : Rr wr b (l, 0) := h1.old ho
      have d1 := Blk.cellN hb1 1 rfl
      have d2 := Blk.free hb1 1
      have e0 := Blk.cellN hr2 0 rfl
      have e1 := Blk.cellN hr2 1 rfl
      have hrl := Rr.len hr2
      have hsz := ho.size
      obtain ⟨l2, y2⟩ := r2
      simp only at e0 e1
      by_cases hy2 : y2 = 0
      · subst hy2
        cases l2 with
        | nil =>
          have hxx : x = (acc, (l, 0)) := by
            rcases htk with ⟨_, g1, _⟩ | ⟨g0, _⟩
            · rw [← HX.out, g1, M.unpk_nil]; simp
            · exact absurd rfl g0
          subst hxx
          have hsl := Sl.of_row (xs := acc.map vstr) (by simpa using hown)
          have hfr := row_from hown
          clear HX hown htk hrl
          go_wp2
          go_ret
          exact ⟨_, rfl, hsl, fun g hg => Nat.le_trans k1.size (Nat.le_of_succ_le (hfr g hg)), hb1, k1.trans (Keep.of_old ho)⟩
        | cons c l2 =>
          have hst := htk.step (by simp) rfl
          have hle : (c :: l2).length ≤ 1099511627776 := by
            rcases htk with ⟨_, _, g⟩ | ⟨g, _⟩
            · have := HTB.out; simp only at g; omega
            · exact absurd rfl g
          have hT := Lib.hid (rtext_any' w1.heap.size (c :: l2, 0) wr hr2 (by simp only [maxLen]; omega))
          have hbound : acc.length + 1 ≤ 2199023255552 := by have := hst.2.2; have := HTB.out; omega
          have HB := Lib.hid hbound
          have HST := Lib.hid hst
          clear hst htk hle hbound
          go_wp2_with (first
            | (at_builtin; refine wpList_append_own _ rfl _ _ 27 rfl (w1.heap.size + 1) 9 i0 (.string ⟨#[]⟩) 1 16 Tryd.underlying27 hi hz0 hz1 hz2 rfl (by decide) _ _ _ rfl (hown3.alloc _) ⟨w3.heap.size, 0, none⟩ 1 1 [vstr (rtextS (c :: l2, 0)).1] rfl rfl ?c1 ?c2 ?c3 ?c4 ?c5 ?_)
            | ((with_reducible refine hT.out.mono ?_); rintro e w3 ⟨rfl, h3, k3⟩; have hown3 := row_keep hown k3 (fun g hg => by omega)))
          case c1 => intro j u hj; match j, hj with | 0, hj => simp at hj; subst hj; simp [Addr.add]
          case c2 => intro u hu; simp at hu; subst hu; rfl
          case c3 => have := HB.out; unfold maxLen; omega
          case c4 => have := HB.out; omega
          case c5 => have := k3.size; have := hr2.lt; simp; omega
          intro v' w4 hown4 hgrow _
          have hne : u5.ownBlock ≠ some w1.heap.size := fun hg => by have := row_from hown _ hg; omega
          have h4 : Rr w4 w1.heap.size (rtextS (c :: l2, 0)).2 := Blk.grown (Blk.alloc h3 _) hgrow hne
          have hrl4 := Rr.len h4
          have ho4 : Old w1 w4 := by
            refine Keep.below (S := fun k => w1.heap.size ≤ k) ?_ (Nat.le_refl _) (fun k hk => by omega)
            refine (((Keep.of_old ho).trans (k3.mono (fun k _ hk => by omega))).alloc _).grown hgrow (fun k hk => ?_)
            exact Or.inl (Nat.le_of_succ_le (row_from hown3 k hk))
          go_wp2
          go_roundw
          case rel => exact ⟨acc ++ [(rtextS (c :: l2, 0)).1], (rtextS (c :: l2, 0)).2, by simpa using hown4, h4, HST.out.1, ho4⟩
          case measure => rw [hrl4, hrl]; exact HST.out.2.1
      · have hxx : x = ([], (l, 11)) := by
          rcases htk with ⟨g0, _⟩ | ⟨_, g1, _⟩
          · exact absurd g0 hy2
          · rw [← HX.out, g1]
        subst hxx
        have hy3 : (y2 == 0) = false := by simpa using hy2
        have hy4 : (y2 != 0) = true := by simpa using hy2
        clear HX hown htk hrl
        cases l2
        all_goals
          go_wp2
          go_ret
          exact ListPostR.nil (hb1.set 1 _) ((k1.trans (Keep.of_old ho)).set1 1 _)
  · simp only [ne_eq, hy, not_false_eq_true, if_true]
    have hy' : (y != 0) = true := by simpa using hy
    have hy3 : (y == 0) = false := by simpa using hy
    clear hs hlen hlb htb
    obtain rfl : t = [] := HT0.out hy
    go_enter Tryd.func26, Tryd.ntmps26
    go_wp2_with ((with_reducible refine HN.out.mono ?_); rintro e w1 ⟨rfl, h1, k1⟩)
    have d1 := Blk.cellN h1 1 rfl
    have hb2 := h1.lt
    refine wp_loop_rounds 1 ?_
    rw [rounds_succ]
    go_wp2
    go_ret
    exact ListPostR.nil (h1.old (Old.alloc _ _)) (k1.alloc _)
end Go.Proofs.YtflkinglgnkchaaDoor
