/- The reader's next list. -/
import Derived.Test.YtflkinglgnkchaaDoorPackF
namespace Go.Proofs.YtflkinglgnkchaaDoor
open Go.RowKit

/-- What the next list is, and the reader behind it. -/
def listS (r : List UInt8 × Int) : List (List UInt8) × (List UInt8 × Int) :=
  if (nextS r).2.1 = false then ([], (nextS r).2.2) else match M.unpk (nextS r).1 with
    | some l => (l, (nextS r).2.2)
    | none => ([], ([], 11))

/-- What has been taken of t, and the reader that stands behind it. -/
def Taken (t : List UInt8) (acc : List (List UInt8)) (r : List UInt8 × Int) : Prop :=
  (r.2 = 0 ∧ M.unpk t = (M.unpk r.1).map (acc ++ ·) ∧ acc.length + r.1.length ≤ t.length) ∨ (r.2 ≠ 0 ∧ r.1 = [] ∧ M.unpk t = none ∧ acc.length ≤ t.length + 1)
theorem Taken.start (t : List UInt8) : Taken t [] (t, 0) := Or.inl ⟨rfl, by simp, by simp⟩
theorem Taken.step {t : List UInt8} {acc : List (List UInt8)} {r : List UInt8 × Int} (h : Taken t acc r) (hne : r.1 ≠ []) :
    Taken t (acc ++ [(nextS r).1]) (nextS r).2.2 ∧ (nextS r).2.2.1.length < r.1.length ∧ acc.length ≤ t.length := by
  rcases h with ⟨h0, h1, h2⟩ | ⟨_, h1, _⟩
  · obtain ⟨l, x⟩ := r
    simp only at h0 h1 h2 hne
    subst h0
    have hpos : 0 < l.length := List.length_pos_iff.2 hne
    by_cases hc : (M.cut l).2.2 = 0
    · have e : nextS (l, 0) = ((M.cut l).1, true, ((M.cut l).2.1, 0)) := by simp [nextS, hc]
      have hs := M.cut_shorter hc
      rw [e]
      refine ⟨Or.inl ⟨rfl, ?_, ?_⟩, by simpa using by omega, by omega⟩
      · rw [h1, M.unpk_ok hc, Option.map_map]
        congr 1; funext x; simp
      · simp; omega
    · have e : nextS (l, 0) = ([], false, ([], (M.cut l).2.2)) := by simp [nextS, hc]
      rw [e]
      refine ⟨Or.inr ⟨hc, rfl, ?_, ?_⟩, by simpa using hpos, by omega⟩
      · rw [h1, M.unpk_bad hne hc]; rfl
      · simp; omega
  · exact absurd h1 hne

def restLen (w : World) (b : Nat) : Nat := match w.cell? ⟨b, 0, none⟩ with | some (.string s) => s.size | _ => 0
theorem Rd.len {w : World} {b : Nat} {r : List UInt8 × Int} (h : Rd w b r) : restLen w b = r.1.length := by
  unfold restLen
  rw [Blk.cellN h 0 rfl]
  rfl

theorem infoString : (Tryd.prog.info? 9).map (fun i => (i.zero, i.size, i.bytes)) = some (some (.string ⟨#[]⟩), 1, 16) := by kernel_rfl

/-- What the next list leaves. -/
def ListPost (b : Nat) (x : List (List UInt8) × (List UInt8 × Int)) (w : World) (e : Ending) (w' : World) : Prop :=
  ∃ v, e = .returned v ∧ Sl w'.heap.size w' v (x.1.map vstr) ∧ (∀ g, v.ownBlock = some g → w.heap.size ≤ g) ∧ Rd w' b x.2 ∧ Keep (· = b) w w'

theorem ListPost.nil {b : Nat} {r : List UInt8 × Int} {w w' : World} (h : Rd w' b r) (k : Keep (· = b) w w') : ListPost b ([], r) w (.returned (.slice none 0 0)) w' :=
  ⟨_, rfl, ⟨none, 0, rfl, fun _ => rfl, fun h => absurd rfl h⟩, fun g hg => (by cases hg), h, k⟩

set_option maxHeartbeats 400000 in
theorem rlist_nil (w : World) :
    Calls Tryd.prog 25 #[.pointer none] w fun e w' => e = .returned (.slice none 0 0) ∧ w' = w := by
  go_enter Tryd.func25, Tryd.ntmps25
  go_wp2_with ((with_reducible refine (next_nil _).mono ?_); rintro e w' ⟨rfl, rfl⟩)
  go_ret
  exact ⟨rfl, rfl⟩

set_option maxHeartbeats 1000000 in
set_option maxRecDepth 100000 in
theorem rlist_any (b : Nat) (r : List UInt8 × Int) (w : World) (h : Rd w b r) (hs : r.1.length ≤ 1099511627776) :
    Calls Tryd.prog 25 #[.pointer (some ⟨b, 0, none⟩)] w (ListPost b (listS r) w) := by
  obtain ⟨i0, hi, hz0, hz1, hz2⟩ := info_parts infoString
  have hlen := nextS_len r
  have hN := next_any b r w h (by unfold maxLen; omega)
  unfold listS
  generalize hn : nextS r = n at *
  obtain ⟨t, ok, r'⟩ := n
  simp only at hlen hN ⊢
  clear hn
  have HN := Lib.hid hN
  clear hN
  cases ok with
  | false =>
    simp only [if_true]
    go_enter Tryd.func25, Tryd.ntmps25
    go_wp2_with ((with_reducible refine HN.out.mono ?_); rintro e w1 ⟨rfl, h1, k1⟩)
    go_ret
    exact ListPost.nil h1 k1
  | true =>
    generalize hx : (if true = false then (([], r') : List (List UInt8) × (List UInt8 × Int)) else match M.unpk t with | some l => (l, r') | none => ([], ([], 11))) = x
    rw [if_neg (by simp)] at hx
    have HX := Lib.hid hx
    clear hx
    go_enter Tryd.func25, Tryd.ntmps25
    go_wp2_with (first
      | ((with_reducible refine HN.out.mono ?_); rintro e w1 ⟨rfl, h1, k1⟩)
      | ((with_reducible refine (read_any _ _).mono ?_); rintro e w' ⟨rfl, rfl⟩))
    have hsH := Lib.hid hs
    have hr0 : Rd (w1.alloc (.cells #[.string ⟨⟨t⟩⟩, .int .i64 0] 55)) w1.heap.size (t, 0) := Blk.new w1 _ _
    go_loopw [6] (fun v wr => ∃ acc r2, wr.ownsRow (w1.heap.size + 1) 9 1 v acc.length (acc.map vstr) ∧ Rd wr w1.heap.size r2 ∧ Taken t acc r2 ∧ Old w1 wr) (fun _ wr => restLen wr w1.heap.size)
    case atStart => exact ⟨[], (t, 0), World.ownsRow_nil _ _ _ _, hr0, Taken.start t, Old.alloc _ _⟩
    case round =>
      obtain ⟨acc, r2, hown, hr2, htk, ho⟩ := hrel
      have hL := Lib.hid (show Calls Tryd.prog 27 #[.pointer (some ⟨w1.heap.size, 0, none⟩)] wr (fun e w' => e = .returned (.int .i64 (r2.1.length : Nat)) ∧ w' = wr) from left_any w1.heap.size ⟨⟨r2.1⟩⟩ wr (Blk.cellN hr2 0 rfl))
      have hE := Lib.hid (end_any w1.heap.size r2 wr hr2)
      have hrl := Rd.len hr2
      have hsz := ho.size
      by_cases hne : r2.1 = []
      · have hL0 : ((r2.1.length : Nat) : Int) = 0 := by rw [hne]; rfl
        have hF := Lib.hid (fun (x : Int) => fail_any b ⟨⟨r'.1⟩⟩ r'.2 x wr (Rd.old h1 ho))
        have hh1 := Rd.old h1 ho
        rcases htk with ⟨g0, g1, _⟩ | ⟨g0, g1, g2, _⟩
        · have hend : endOf r2 = 0 := by simp [endOf, g0, hne]
          have hxx : x = (acc, r') := by
            rw [← HX.out, g1, hne, M.unpk_nil]; simp
          subst hxx
          rw [hend] at hE
          have hsl := Sl.of_row (xs := acc.map vstr) (by simpa using hown)
          have hfr := row_from hown
          clear HX hown g0 g1 hr2 hend hrl
          go_wp2_with (first
            | ((with_reducible refine hL.out.mono ?_); rintro e w' ⟨rfl, rfl⟩)
            | ((with_reducible refine hE.out.mono ?_); rintro e w' ⟨rfl, rfl⟩))
          go_ret
          exact ⟨_, rfl, hsl, fun g hg => Nat.le_trans k1.size (Nat.le_of_succ_le (hfr g hg)), hh1, k1.trans (Keep.of_old ho)⟩
        · have hend : endOf r2 = r2.2 := by simp [endOf, g0]
          have hxx : x = ([], ([], 11)) := by rw [← HX.out, g2]
          subst hxx
          rw [hend] at hE
          have hbad : (r2.2 != 0) = true := by simpa using g0
          clear HX hown g0 g1 g2 hr2 hend hrl
          go_wp2_with (first
            | ((with_reducible refine hL.out.mono ?_); rintro e w' ⟨rfl, rfl⟩)
            | ((with_reducible refine hE.out.mono ?_); rintro e w' ⟨rfl, rfl⟩)
            | ((with_reducible refine (hF.out _).mono ?_); rintro e w2 ⟨rfl, h2, k2⟩))
          go_ret
          exact ListPost.nil h2 ((k1.trans (Keep.of_old ho)).trans k2)
      · have hst := htk.step hne
        have hpos : 0 < r2.1.length := List.length_pos_iff.2 hne
        have hle : r2.1.length ≤ 1099511627776 := by
          rcases htk with ⟨_, _, g⟩ | ⟨_, g, _⟩
          · omega
          · exact absurd g hne
        have hT := Lib.hid (text_any w1.heap.size r2 wr hr2 (by unfold maxLen; omega))
        have hbound : acc.length + 1 ≤ 2199023255552 := by have := hst.2.2; omega
        have HB := Lib.hid hbound
        have HST := Lib.hid hst
        clear hst hne htk hle hbound hs hlen
        go_wp2_with (first
          | (at_builtin; refine wpList_append_own _ rfl _ _ 27 rfl (w1.heap.size + 1) 9 i0 (.string ⟨#[]⟩) 1 16 Tryd.underlying27 hi hz0 hz1 hz2 rfl (by decide) _ _ _ rfl (hown3.alloc _) ⟨w3.heap.size, 0, none⟩ 1 1 [vstr (nextS r2).1] rfl rfl ?c1 ?c2 ?c3 ?c4 ?c5 ?_)
          | ((with_reducible refine hL.out.mono ?_); rintro e w' ⟨rfl, rfl⟩)
          | ((with_reducible refine hT.out.mono ?_); rintro e w3 ⟨rfl, h3, k3⟩; have hown3 := row_keep hown k3 (fun g hg => by omega)))
        case c1 => intro j u hj; match j, hj with | 0, hj => simp at hj; subst hj; simp [Addr.add]
        case c2 => intro u hu; simp at hu; subst hu; rfl
        case c3 => have := HB.out; unfold maxLen; omega
        case c4 => have := HB.out; omega
        case c5 => have := k3.size; have := hr2.lt; simp; omega
        intro v' w4 hown4 hgrow _
        have hne : u6.ownBlock ≠ some w1.heap.size := fun hg => by have := row_from hown _ hg; omega
        have h4 : Rd w4 w1.heap.size (nextS r2).2.2 := Blk.grown (Blk.alloc h3 _) hgrow hne
        have hrl4 := Rd.len h4
        have ho4 : Old w1 w4 := by
          refine Keep.below (S := fun k => w1.heap.size ≤ k) ?_ (Nat.le_refl _) (fun k hk => by omega)
          refine (((Keep.of_old ho).trans (k3.mono (fun k _ hk => by omega))).alloc _).grown hgrow (fun k hk => ?_)
          exact Or.inl (Nat.le_of_succ_le (row_from hown3 k hk))
        go_wp2
        go_roundw
        case rel => exact ⟨acc ++ [(nextS r2).1], (nextS r2).2.2, by simpa using hown4, h4, HST.out.1, ho4⟩
        case measure => rw [hrl4, hrl]; exact HST.out.2.1
end Go.Proofs.YtflkinglgnkchaaDoor
