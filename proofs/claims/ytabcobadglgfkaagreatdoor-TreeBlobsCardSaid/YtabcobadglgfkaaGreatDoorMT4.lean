/- Merged of: TreeJ TreeO TreeOB TreeOC TreeP. -/
import Derived.Test.YtabcobadglgfkaaGreatDoorMT3
import Derived.Test.YtabcobadglgfkaaGreatDoorMT1
import Derived.Test.YtabcobadglgfkaaGreatDoorMB2
import Derived.Test.YtabcobadglgfkaaGreatDoorMF2
import Derived.Deep.RegionHeld3
import Derived.Deep.AppendLies
import Derived.RangeFuncBox
import Derived.RangeFuncLeaves
import Derived.Shelf.Abstract
import Derived.WalkKit
import Derived.OwnWalkIn
import Derived.TacticsInMore
import Derived.LoopNIn
import Derived.LoopIn
import Derived.Maps.OwnIn
import Derived.Shelf.AbstractIn
import Derived.RangeFuncCalls
import Derived.Shelf.RegionOpen
import Derived.Laws.EntriesVeiled
/- The entries that bytes are. -/
namespace Go.Proofs.YtabcobadglgfkaaGreatDoor
open Go.RowKit

/-- What reading leaves. -/
def DecPost (d : List UInt8) (w : World) (e : Ending) (w' : World) : Prop :=
  ∃ u, e = .returned (.tuple #[u, .int .i64 (match M.decode d with | some _ => 0 | none => 11)]) ∧ El w' u ((M.decode d).getD []) ∧ (∀ b, u.ownBlock = some b → w.heap.size ≤ b ∧ b < w'.heap.size) ∧ Old w w'
theorem DecPost.no {d : List UInt8} {w w' : World} (h : M.decode d = none) (ho : Old w w') : DecPost d w (.returned (.tuple #[.slice none 0 0, .int .i64 11])) w' :=
  ⟨_, by rw [h], by rw [h]; exact El.nil _, (fun b hb => by cases hb), ho⟩

set_option maxHeartbeats 4000000 in
set_option maxRecDepth 100000 in
theorem decode_any (d : List UInt8) (w : World) (ht : Tab w) (hm : Mx w) (hl : d.length ≤ 1000000) :
    Calls Tryz.prog 21 #[S d] w (DecPost d w) := by
  obtain ⟨i0, hi, hz0, hz1, hz2⟩ := info_parts infoEntry
  have HT := Lib.hid ht
  have HM := Lib.hid hm
  have HR0 := Lib.hid (show Rd (w.alloc (.cells #[.string ⟨⟨d⟩⟩, .int .i64 0] 116)) w.heap.size (d, 0) from Blk.new w _ _)
  have HRD := Lib.hid (read_any ⟨⟨d⟩⟩ w)
  clear ht hm
  go_enter Tryz.func21, Tryz.ntmps21
  go_wp2_with ((with_reducible refine HRD.out.mono ?_); rintro e w1 ⟨rfl, rfl⟩)
  go_loopw [4] (fun u wr => ∃ (es : List M.En) (r : List UInt8 × Int), EOwn (w.heap.size + 1) wr u es ∧ Rd wr w.heap.size r ∧ (r.2 ≠ 0 → r.1 = []) ∧ es.length + r.1.length ≤ d.length ∧ (∀ e ∈ es, e.1.length ≤ 1000000 ∧ e.2.2.length ≤ 1000000) ∧ Readin d es r ∧ Old w wr) (fun _ wr => restLen wr w.heap.size)
  case atStart => exact ⟨[], (d, 0), EOwn.nil _ _, HR0.out, (fun h => absurd rfl h), by simp, by simp, Readin.start d, Old.alloc _ _⟩
  case round =>
    obtain ⟨es, r, hown, hr, hr0, hlen, hsm, hin, ho⟩ := hrel
    have HL := Lib.hid (show Calls Tryz.prog 46 #[.pointer (some ⟨w.heap.size, 0, none⟩)] wr (fun e w' => e = .returned (.int .i64 (r.1.length : Nat)) ∧ w' = wr) from left_any w.heap.size ⟨⟨r.1⟩⟩ wr (Blk.cellN hr 0 rfl))
    have HLI := Lib.hid (rlist_any w.heap.size r wr hr (by omega))
    have HRL := Lib.hid (Rd.len hr)
    have HOWN := Lib.hid hown
    have HIN := Lib.hid hin
    have HO := Lib.hid ho
    have HSM := Lib.hid hsm
    have HR := Lib.hid hr
    clear hown hin ho hsm hr
    by_cases hne : r.1 = []
    · have hL0 : ((r.1.length : Nat) : Int) = 0 := by rw [hne]; rfl
      have HDN := Lib.hid (HIN.out.done hne)
      obtain ⟨pu, cu, rfl⟩ := HOWN.out.el.len
      have HEN := Lib.hid (encode_any (.slice pu es.length cu) es wr (HT.out.old HO.out) (HM.out.old HO.out) HOWN.out.el (by omega) (fun e he => by have := HSM.out e he; unfold maxLen; omega))
      clear hne hr0
      by_cases hx : M.right es = true ∧ M.bytes es = d
      · rw [right_yes hx.1, hx.2] at HEN
        rw [if_pos hx] at HDN
        clear hx
        go_wp2_with (first
          | ((with_reducible refine HL.out.mono ?_); rintro e w' ⟨rfl, rfl⟩)
          | ((with_reducible refine HEN.out.mono ?_); rintro e w2 ⟨rfl, ho2⟩))
        go_ret2
        exact ⟨_, by rw [HDN.out]; rfl, by rw [HDN.out]; exact HOWN.out.el.old ho2, fun b hb => ⟨by have := row_from HOWN.out b hb; omega, by have := row_lt HOWN.out b hb; have := ho2.size; omega⟩, HO.out.trans ho2⟩
      · rw [if_neg hx] at HDN
        cases hrt : M.right es with
        | false =>
          have hee : M.encode es = ([], 11) := by unfold M.encode; rw [hrt]; rfl
          rw [hee] at HEN
          clear hx hrt hee
          go_wp2_with (first
            | ((with_reducible refine HL.out.mono ?_); rintro e w' ⟨rfl, rfl⟩)
            | ((with_reducible refine HEN.out.mono ?_); rintro e w2 ⟨rfl, ho2⟩))
          go_ret2
          exact DecPost.no HDN.out (HO.out.trans ho2)
        | true =>
          rw [right_yes hrt] at HEN
          have hdd : (M.bytes es == d) = false := by rw [beq_list]; exact decide_eq_false (fun e => hx ⟨hrt, e⟩)
          clear hx hrt
          generalize M.bytes es = bs at *
          go_wp2_with (first
            | ((with_reducible refine HL.out.mono ?_); rintro e w' ⟨rfl, rfl⟩)
            | ((with_reducible refine HEN.out.mono ?_); rintro e w2 ⟨rfl, ho2⟩))
          go_ret2
          exact DecPost.no HDN.out (HO.out.trans ho2)
    · have h0 : r.2 = 0 := Classical.byContradiction (fun h => hne (hr0 h))
      have hpos : (0 : Int) < (r.1.length : Nat) := by have := List.length_pos_iff.2 hne; omega
      have HLS := Lib.hid (listS_less hne h0)
      have HSS := Lib.hid (listS_small (r := r))
      have hlt := HR.out.lt
      by_cases h3 : (listS r).1.length = 3
      · obtain ⟨l0, l1, l2, h012⟩ : ∃ l0 l1 l2, (listS r).1 = [l0, l1, l2] := by
          match hx : (listS r).1, h3 with
          | [a, b, c], _ => exact ⟨a, b, c, rfl⟩
        have HST := Lib.hid (HIN.out.step hne h012)
        rw [h012] at HSS
        have hs0 := HSS.out l0 (by simp)
        have hs1 := HSS.out l1 (by simp)
        have hs2 := HSS.out l2 (by simp)
        have H12 := Lib.hid h012
        clear h012 h3 hne hr0 h0
        obtain ⟨pu, cu, rfl⟩ := HOWN.out.el.len
        go_wp2_with (first
          | ((with_reducible refine HL.out.mono ?_); rintro e w' ⟨rfl, rfl⟩)
          | (((with_reducible refine HLI.out.mono ?_); rintro e w1 ⟨v, rfl, hsl, hvb, hrd, hkp⟩; rw [H12.out] at hsl; obtain ⟨pv, cv, rfl⟩ := hsl.len)))
        obtain ⟨b, off, rfl, hb, hc⟩ := hsl.at (by simp)
        have hc0 := hc 0 (by simp)
        have hc1 := hc 1 (by simp)
        have hc2 := hc 2 (by simp)
        simp at hc0 hc1 hc2
        go_upto_region 7 with (fail)
        have hown1 : EOwn (w.heap.size + 1) w1 (.slice pu es.length cu) es := row_keep HOWN.out hkp (fun g hg e => by omega)
        have hs1z := hkp.size
        have HC2 := Lib.hid (show ∀ u ∈ [S l0, Value.bool (l1 == [100]), S l2], u.oneCell' = true from by
          intro u hu
          simp only [List.mem_cons, List.not_mem_nil, or_false] at hu
          rcases hu with rfl | rfl | rfl <;> rfl)
        have HC3 := Lib.hid (show es.length + 1 ≤ maxLen by unfold maxLen; omega)
        have HC4 := Lib.hid (show (es.length + 1) * 40 ≤ 140737488355328 by omega)
        have HC5 := Lib.hid (show w.heap.size + 1 ≤ w1.heap.size + 1 by omega)
        have hnb : (Value.slice pu es.length cu).ownBlock ≠ some b := fun e => by have h1 := hvb b rfl; have h2 := row_lt HOWN.out b e; omega
        have HK := Lib.hid (show ∀ (W w2 : World) (row : Option Nat), Old w1 W → W.grownBy w2 row → row ≠ some b → w2.cell? ⟨b, off, none⟩ = some (S l0) ∧ w2.cell? ⟨b, off + 1, none⟩ = some (S l1) ∧ w2.cell? ⟨b, off + 2, none⟩ = some (S l2) from fun W w2 row h1 h2 h3 => by
          have hbl : w2.heap[b]? = w1.heap[b]? := (h2.block b (by have := h1.size; omega) (fun e => h3 e.symm)).trans (h1.block b hb)
          exact ⟨(World.cell?_of_block (w := w1) (a := ⟨b, off, none⟩) hbl).trans hc0, (World.cell?_of_block (w := w1) (a := ⟨b, off + 1, none⟩) hbl).trans hc1, (World.cell?_of_block (w := w1) (a := ⟨b, off + 2, none⟩) hbl).trans hc2⟩)
        apply cut_here
        · intro key
          go_region_held3 (fun w' => w'.cell? ⟨b, off, none⟩ = some (S l0) ∧ w'.cell? ⟨b, off + 1, none⟩ = some (S l1) ∧ w'.cell? ⟨b, off + 2, none⟩ = some (S l2)) (first | go_keep | exact HK.out _ _ _ ((Old.alloc w1 _).trans (Old.drewN _ 1)) hgrow hnb) (first | (refine step_append_lies _ (by rfl) _ _ _ (by rfl) (w.heap.size + 1) 33 i0 _ 3 40 Tryz.underlying26 hi hz0 hz1 hz2 (by rfl) (by decide) (.slice pu es.length cu) es.length (ecells es) (by rfl) (hown1.alloc _).drew ⟨w1.heap.size, 0, none⟩ 1 1 [S l0, .bool (l1 == [100]), S l2] (by rfl) (by rfl) (World.news_of_block (fr := (0, 0)) (t := 33) (cs := #[S l0, .bool (l1 == [100]), S l2]) (heap_alloc_last w1 _)) HC2.out (by decide) HC3.out HC4.out (by simp; omega) _ rfl ?_); intro g cap w2 hown2 hgrow hat hlt2)
          all_goals (revert g cap w2 hown2 hgrow hat hlt2; exact key.out)
        intro g cap w2 hown2 hgrow _ _ _
        have hnw : (Value.slice pu es.length cu).ownBlock ≠ some w.heap.size := fun e => by have := row_from HOWN.out _ e; omega
        have hrd2 : Rd w2 w.heap.size (listS r).2 := Blk.grown (Blk.drewN (Blk.alloc hrd _) 1) hgrow hnw
        have ho2 : Old w w2 := by
          refine Keep.old (S := fun k => w.heap.size ≤ k) ?_ (fun k hk e => by omega)
          refine ((((Keep.of_old HO.out).trans (hkp.mono (fun k _ hk => by omega))).alloc _).drewN 1).grown hgrow (fun k hk => Or.inr ?_)
          have := row_from HOWN.out k hk
          omega
        have hown3 : EOwn (w.heap.size + 1) w2 (.slice (some ⟨g, 0, none⟩) (es.length + 1) cap) (es ++ [(l0, l1 == [100], l2)]) := by
          show w2.ownsRow (w.heap.size + 1) 33 3 _ (es ++ [(l0, l1 == [100], l2)]).length (ecells (es ++ [(l0, l1 == [100], l2)]))
          rw [ecells_append, ecells_one, List.length_append]
          exact hown2
        have HO3 := Lib.hid hown3
        have HRD2 := Lib.hid hrd2
        have hm2 := Rd.len hrd2
        clear hown2 hgrow hown3 hrd2
        go_wp2
        go_roundw
        case rel => exact ⟨es ++ [(l0, l1 == [100], l2)], (listS r).2, HO3.out, HRD2.out, HLS.out.2, by have := HLS.out.1; rw [List.length_append]; simp only [List.length_singleton]; omega, (fun e he => by
          rcases List.mem_append.1 he with he | he
          · exact HSM.out e he
          · rw [List.mem_singleton] at he
            subst he
            exact ⟨by show l0.length ≤ _; omega, by show l2.length ≤ _; omega⟩), HST.out, ho2⟩
        case measure => rw [hm2, HRL.out]; exact HLS.out.1
      · have HBAD := Lib.hid (HIN.out.bad hne h3)
        have h3' : ((((listS r).1.length : Nat) : Int) != 3) = true := by rw [bne_iff_ne]; omega
        clear hne hr0 h0
        go_wp2_with (first
          | ((with_reducible refine HL.out.mono ?_); rintro e w' ⟨rfl, rfl⟩)
          | (((with_reducible refine HLI.out.mono ?_); rintro e w1 ⟨v, rfl, hsl, hvb, hrd, hkp⟩; obtain ⟨pv, cv, rfl⟩ : (∃ pv cv, v = .slice pv (listS r).1.length cv) := (by obtain ⟨p, c, e⟩ := hsl.len; exact ⟨p, c, by rw [e, List.length_map]⟩))))
        go_ret2
        exact DecPost.no HBAD.out (Keep.old ((Keep.of_old HO.out).trans hkp) (fun k hk e => by omega))
end Go.Proofs.YtabcobadglgfkaaGreatDoor

/- The finder: which blob has a digest. -/
namespace Go.Proofs.YtabcobadglgfkaaGreatDoor
open Go.RowKit Go.Shelf

attribute [local go_sem] Oper.semAt_some

/-- An index and a text, neither too great. -/
abbrev It := { x : Nat × List UInt8 // x.1 < 1000000 ∧ x.2.length ≤ 1000000 }
/-- Texts that are not too many, none too great. -/
def Fair (bs : List (List UInt8)) : Prop := bs.length ≤ 1000000 ∧ ∀ b ∈ bs, b.length ≤ 1000000
theorem fair_get {bs : List (List UInt8)} (h : Fair bs) (j : Nat) : (bs[j]?.getD []).length ≤ 1000000 := by
  cases hx : bs[j]? with
  | none => simp
  | some b => exact h.2 b (List.mem_of_getElem? hx)
/-- What comes in the k-th round. -/
def item (bs : List (List UInt8)) (h : Fair bs) (k : Nat) : It := if hk : k < bs.length then ⟨(bs.length - 1 - k, bs[bs.length - 1 - k]?.getD []), by have := h.1; show bs.length - 1 - k < 1000000; omega, fair_get h _⟩ else ⟨(0, []), by decide, by decide⟩
theorem item_eq {bs : List (List UInt8)} (h : Fair bs) {k : Nat} (hk : k < bs.length) : (item bs h k).1 = (bs.length - 1 - k, bs[bs.length - 1 - k]?.getD []) := by unfold item; rw [dif_pos hk]
def upto {α : Type} (f : Nat → α) (k : Nat) : List α := (List.range k).map f
theorem upto_succ {α : Type} (f : Nat → α) (k : Nat) : upto f (k + 1) = upto f k ++ [f k] := by simp [upto, List.range_succ]
theorem upto_length {α : Type} (f : Nat → α) (k : Nat) : (upto f k).length = k := by simp [upto]

/-- What a round keeps: all that lay below n₀ but the block M. -/
def Kps (n₀ M : Nat) (W W' : World) : Prop := W.heap.size ≤ W'.heap.size ∧ ∀ k, k < n₀ → k ≠ M → W'.heap[k]? = W.heap[k]?
theorem Kps.refl (n₀ M : Nat) (W : World) : Kps n₀ M W W := ⟨Nat.le_refl _, fun _ _ _ => rfl⟩
theorem Kps.trans {n₀ M : Nat} {A B C : World} (h : Kps n₀ M A B) (k : Kps n₀ M B C) : Kps n₀ M A C := ⟨Nat.le_trans h.1 k.1, fun i hi hm => (k.2 i hi hm).trans (h.2 i hi hm)⟩
theorem Kps.cell {n₀ M : Nat} {A B : World} (h : Kps n₀ M A B) {p : Addr} (h1 : p.block < n₀) (h2 : p.block ≠ M) : B.cell? p = A.cell? p := World.cell?_of_block (w := A) (h.2 _ h1 h2)
theorem Kps.of_below {n₀ M : Nat} {A B : World} (h : Below n₀ A B) : Kps n₀ M A B := ⟨h.size, fun k hk _ => h.block k hk⟩

set_option maxRecDepth 100000 in
set_option maxHeartbeats 2000000 in
theorem back1_in (F : Fence) (n : Nat) (h7 : F.fn 155) (hro : F.round = none) (hn : 1 ≤ n) (l Bs n₀ M : Nat) (v : Value) (bs : List (List UInt8)) (hf : Fair bs) (J Jx : List It → World → Prop)
    (hY : ∀ pre x W, J pre W → pre.length < bs.length → YieldAt F (n - 1) Tryz.prog l #[.int .i64 (x.1.1 : Nat), .string ⟨⟨x.1.2⟩⟩] W fun e W' =>
      (e = .returned (.bool true) ∧ J (pre ++ [x]) W' ∧ Kps n₀ M W W') ∨ (e = .returned (.bool false) ∧ Jx (pre ++ [x]) W'))
    (W : World) (hBs : W.cell? ⟨Bs, 0, none⟩ = some v) (hBn : Bs < n₀) (hBM : Bs ≠ M) (hv : Sl n₀ W v (bs.map vstr)) (hvM : bs ≠ [] → ∀ b, v.ownBlock = some b → b ≠ M) (h0 : J [] W) :
    CallsIn F n Tryz.prog 155 #[.func (.yield l) #[] #[], .pointer (some ⟨Bs, 0, none⟩)] W fun e W' => (∃ v, e = .returned v) ∧
      ((∃ ys, ys = upto (item bs hf) bs.length ∧ J ys W') ∨ (∃ pre, True ∧ Jx pre W')) := by
  obtain ⟨pv, cv, rfl⟩ : ∃ pv cv, v = .slice pv bs.length cv := by
    obtain ⟨p, c, e⟩ := hv.len
    exact ⟨p, c, by rw [e, List.length_map]⟩
  have hlen := hf.1
  refine callsIn_of_wp Tryz.func155 rfl h7 ?_ hro
  simp only [Tryz.ntmps155, List.size_toArray, List.length_cons, List.length_nil, Nat.reduceAdd, Nat.reduceSub, Array.replicate_succ, Array.replicate_zero, List.push_toArray, List.append_toArray, List.nil_append, List.cons_append]
  have hw0 : IntKind.i64.wrap ((bs.length : Int) - 1) = (bs.length : Int) - 1 := IntWalk.i64_in _ (by omega)
  gi_wp2
  gi_loopw [3] (fun i wr => ∃ k : Nat, k ≤ bs.length ∧ i = .int .i64 ((bs.length : Int) - 1 - k) ∧ J (upto (item bs hf) k) wr ∧ Kps n₀ M W wr)
    (fun i _ => (intOf i + 1).toNat)
  case atStart => exact ⟨0, Nat.zero_le _, by simp, h0, Kps.refl _ _ _⟩
  case round =>
    obtain ⟨k, hk, rfl, hJs, hnx⟩ := hrel
    have hBs' := (hnx.cell (p := ⟨Bs, 0, none⟩) hBn hBM).trans hBs
    by_cases hlt : k < bs.length
    · obtain ⟨b, off, rfl, hb, hc⟩ := hv.at (by intro e; have := congrArg List.length e; simp at this; rw [this] at hlt; simp at hlt)
      obtain ⟨fn, tmps, assign, body, hy, hR⟩ := hY _ (item bs hf k) wr hJs (by rw [upto_length]; exact hlt)
      rw [item_eq hf hlt] at hy
      have hcx : wr.cell? ⟨b, off + (bs.length - 1 - k), none⟩ = some (.string ⟨⟨bs[bs.length - 1 - k]?.getD []⟩⟩) := (hnx.cell (p := ⟨b, off + (bs.length - 1 - k), none⟩) hb (hvM (fun e => by rw [e] at hlt; exact absurd hlt (Nat.not_lt_zero _)) b rfl)).trans <| (hc (bs.length - 1 - k) (by simp; omega)).trans (by
        have hj : bs.length - 1 - k < bs.length := by omega
        simp [hj, vstr])
      have i1 : (0 : Int) ≤ (bs.length : Int) - 1 - k := by omega
      have i2 : (bs.length : Int) - 1 - k < bs.length := by omega
      have i3 : ((bs.length : Int) - 1 - k).toNat = bs.length - 1 - k := by omega
      have i4 : (((bs.length - 1 - k : Nat) : Int)) = (bs.length : Int) - 1 - k := by omega
      have i5 : IntKind.i64.wrap ((bs.length : Int) - 1 - k - 1) = (bs.length : Int) - 1 - k - 1 := IntWalk.i64_in _ (by omega)
      simp only [i4] at hy
      gi_wp2
      refine hR.mono ?_
      rintro e W3 (⟨rfl, hJ3, hk3⟩ | ⟨rfl, hJx3⟩)
      · gi_wp2
        go_roundw
        case rel => exact ⟨k + 1, by omega, by congr 1; omega, by rw [upto_succ]; exact hJ3, hnx.trans hk3⟩
        case measure => simp [intOf]; omega
      · gi_wp2
        refine bodyPost_ret (results_none rfl _ _ _) rfl ?_
        exact ⟨⟨_, rfl⟩, .inr ⟨_, trivial, hJx3⟩⟩
    · obtain rfl : k = bs.length := by omega
      have i1 : (bs.length : Int) - 1 - bs.length < 0 := by omega
      gi_wp2
      go_end0
      exact ⟨⟨_, rfl⟩, .inl ⟨_, rfl, hJs⟩⟩

set_option maxHeartbeats 1000000 in
theorem back_in (F : Fence) (n : Nat) (h5 : F.fn 127) (hro : F.round = none) (a : Option Addr) (len cap : Nat) (w : World) :
    CallsIn F n Tryz.prog 127 #[.slice a len cap] w fun e w' => e = .returned (.func (.func 155) #[] #[.pointer (some ⟨w.heap.size, 0, none⟩)]) ∧ w' = w.alloc (.cells #[.slice a len cap] 43) := by
  refine callsIn_of_wp Tryz.func127 rfl h5 ?_ hro
  simp only [Tryz.ntmps127, List.size_toArray, List.length_cons, List.length_nil, Nat.reduceAdd, Nat.reduceSub, Array.replicate_succ, Array.replicate_zero, List.push_toArray, List.append_toArray, List.nil_append, List.cons_append]
  gi_wp2
  go_ret
  exact ⟨rfl, rfl⟩
theorem back_stops (F : Fence) (n : Nat) (h7 : F.fn 155) (hro : F.round = none) (hn : 1 ≤ n) (Bs n₀ M : Nat) (v : Value) (bs : List (List UInt8)) (hf : Fair bs) (w : World) (hBs : Bs < w.heap.size) (hn₀ : n₀ ≤ w.heap.size)
    (hc : w.cell? ⟨Bs, 0, none⟩ = some v) (hBn : Bs < n₀) (hBM : Bs ≠ M) (hv : Sl n₀ w v (bs.map vstr)) (hvM : bs ≠ [] → ∀ b, v.ownBlock = some b → b ≠ M) :
    SeqStopsK F n Tryz.prog 155 #[.pointer (some ⟨Bs, 0, none⟩)] (fun x : It => #[.int .i64 (x.1.1 : Nat), .string ⟨⟨x.1.2⟩⟩]) (Kps n₀ M) (fun ys => ys = upto (item bs hf) bs.length) (fun _ => True) bs.length w := fun l J Jx W hW _ _ hY h0 =>
  back1_in F n h7 hro hn l Bs n₀ M v bs hf J Jx hY W ((hW.cell (p := ⟨Bs, 0, none⟩) hBs).trans hc) hBn hBM (hv.below (hW.mono hn₀)) hvM h0

/-- Which index a digest has, behind what has come so far. -/
def tally (pre : List It) : DataW Value := pre.foldl (fun D x => D.put (.string (M.sum x.1.2)) (.lit (.int .i64 (x.1.1 : Nat)))) (.map [])
theorem tally_snoc (pre : List It) (x : It) : tally (pre ++ [x]) = (tally pre).put (.string (M.sum x.1.2)) (.lit (.int .i64 (x.1.1 : Nat))) := by simp [tally]
end Go.Proofs.YtabcobadglgfkaaGreatDoor

/- The finder: its walk. -/
namespace Go.Proofs.YtabcobadglgfkaaGreatDoor
open Go.RowKit Go.Shelf

attribute [local go_sem] Oper.semAt_some

theorem grown_cell {w w' : World} {row : Option Nat} (hg : w.grownBy w' row) {p : Addr} {v : Value} (h : w.cell? p = some v) (hr : row ≠ some p.block) : w'.cell? p = some v :=
  (World.cell?_of_block (w := w) (hg.block _ (World.block_lt_of_cell? _ _ h) (fun e => hr e.symm))).trans h
theorem mapInts : Tryz.prog.underlying 155 = some (.map 9 3) := Tryz.underlying155

set_option maxRecDepth 100000 in
set_option maxHeartbeats 4000000 in
theorem finder_any (a : Option Addr) (len cap : Nat) (bs : List (List UInt8)) (hf : Fair bs) (w : World) (ht : Tabs w) (hv : Sl w.heap.size w (.slice a len cap) (bs.map vstr)) :
    Calls Tryz.prog 92 #[.slice a len cap] w fun e w' => e = .returned (.func (.func 128) #[] #[.pointer (some ⟨w.heap.size + 2, 0, none⟩), .pointer (some ⟨w.heap.size, 0, none⟩)]) ∧
      w'.cell? ⟨w.heap.size + 2, 0, none⟩ = some (.map (some (w.heap.size + 1))) ∧ w'.cell? ⟨w.heap.size, 0, none⟩ = some (.slice a len cap) ∧ w'.ownsMap Tryz.prog 9 (plainElem (H := Value) Tryz.prog 3) (w.heap.size + 1) bs.length (tally (upto (item bs hf) bs.length)) ∧ Old w w' := by
  have hlen := hf.1
  have HT := Lib.hid ht
  have hvM : bs ≠ [] → ∀ b, (Value.slice a len cap).ownBlock = some b → b ≠ w.heap.size + 1 := fun hne b hb => by
    obtain ⟨b', off, rfl, hlt, _⟩ := hv.at (by simpa using hne)
    have e : b' = b := by injection hb
    omega
  have hmm := @run_makeMap Tryz.prog
  have eS : ∀ args w, (callFunc 30 args).run Tryz.prog w = .ok (.enter 30 args) w := enters_of Tryz.func30 (by kernel_rfl) rfl
  refine (callsIn_wide (n := 6)).1 ?_
  have hro : Fence.wide.round = none := rfl
  refine callsIn_of_wp_marks Tryz.func92 rfl trivial ?_ rfl
  simp only [Tryz.ntmps92, List.size_toArray, List.length_cons, List.length_nil, Nat.reduceAdd, Nat.reduceSub, Array.replicate_succ, Array.replicate_zero, List.push_toArray, List.append_toArray, List.nil_append, List.cons_append]
  have hfB : Fence.wide.fn 127 := trivial
  gi_wp2_with (gi_at_call 127; refine (back_in Fence.wide (6 - 1) trivial rfl _ _ _ _).mono ?_; rintro e w' ⟨rfl, rfl⟩)
  have hsz : ((((w.alloc (.cells #[.slice a len cap] 43)).alloc (.map #[] 0)).alloc (.cells #[.map (some (w.heap.size + 1))] 155)).alloc (.cells #[.slice a len cap] 43)).heap.size = w.heap.size + 4 := by simp
  have bV : Boxed (w.alloc (.cells #[.slice a len cap] 43)) w.heap.size 43 (.slice a len cap) := Boxed.new w 43 (.slice a len cap)
  have hm0 := World.ownsMap_made (w.alloc (.cells #[.slice a len cap] 43)) Tryz.prog 9 (plainElem (H := Value) Tryz.prog 3)
  have bM := Boxed.new ((w.alloc (.cells #[.slice a len cap] 43)).alloc (.map #[] 0)) 155 (.map (some (w.heap.size + 1)))
  have bB := Boxed.new (((w.alloc (.cells #[.slice a len cap] 43)).alloc (.map #[] 0)).alloc (.cells #[.map (some (w.heap.size + 1))] 155)) 43 (.slice a len cap)
  simp only [World.size_alloc] at bM bB hm0
  have hB0 : Below w.heap.size w ((((w.alloc (.cells #[.slice a len cap] 43)).alloc (.map #[] 0)).alloc (.cells #[.map (some (w.heap.size + 1))] 155)).alloc (.cells #[.slice a len cap] 43)) := ((((Below.refl _ w).alloc (Nat.le_refl _) _).alloc (by simp) _).alloc (by simp; omega) _).alloc (by simp; omega) _
  have hsl := (hv.below hB0).mono (show w.heap.size ≤ w.heap.size + 4 by omega)
  have hkt : ∀ {A B C : World}, Kps (w.heap.size + 4) (w.heap.size + 1) A B → Kps (w.heap.size + 4) (w.heap.size + 1) B C → Kps (w.heap.size + 4) (w.heap.size + 1) A C := fun h k => h.trans k
  refine wpIn_rangeFunc_ownG rfl (by omega) (gf := 155) (lb := #[.pointer (some ⟨w.heap.size + 1 + 1 + 1, 0, none⟩)]) rfl trivial (enters_of Tryz.func155 (by kernel_rfl) rfl)
    (back_stops Fence.wide (6 - 1) trivial rfl (by omega) (w.heap.size + 1 + 1 + 1) (w.heap.size + 4) (w.heap.size + 1) (.slice a len cap) bs hf _ (by simp) (by simp) bB.cell (by omega) (by omega) hsl hvM) hkt
    (by
      intro W l o o' hl ho hc hw
      refine ⟨by simp [World.putObj], fun k hk hM => ?_⟩
      exact World.putObj_heap_other (by rw [hsz] at hl; omega))
    (Below.refl _ _) (fun _ => rfl)
    (fun pre W => (W.cell? ⟨w.heap.size + 2, 0, none⟩ = some (.map (some (w.heap.size + 1))) ∧ W.cell? ⟨w.heap.size, 0, none⟩ = some (.slice a len cap) ∧ W.ownsMap Tryz.prog 9 (plainElem (H := Value) Tryz.prog 3) (w.heap.size + 1) pre.length (tally pre) ∧ w.heap.size + 4 ≤ W.heap.size) ∧ Below w.heap.size w W)
    (fun _ _ _ => False)
    (OwnFrom.and (fun s A B row hs hg hr => ⟨cell_kept hs.1 hg (fun r e => (hr r e).2), cell_kept hs.2.1 hg (fun r e => (hr r e).2), hs.2.2.1.kept hg (fun e => by have := (hr _ e.symm).1; rw [hsz] at this; omega), Nat.le_trans hs.2.2.2 hg.size⟩) (ownFrom_below (Nat.le_refl _) (by simp; omega)))
    (fun _ _ _ _ _ hs _ _ => hs)
    ⟨⟨(bM.alloc _).cell, (((bV.alloc _).alloc _).alloc _).cell, (hm0.alloc _).alloc _, by rw [hsz]; exact Nat.le_refl _⟩, hB0⟩
    (fun x => { tmps := #[.slice a len cap, .pointer (some ⟨w.heap.size, 0, none⟩), .nilFunc, .pointer (some ⟨w.heap.size + 1 + 1, 0, none⟩), .int .i64 (x.1.1 : Nat), .string ⟨⟨x.1.2⟩⟩, .map (some (w.heap.size + 1)), .slice a len cap, .func (.func 155) #[] #[.pointer (some ⟨w.heap.size + 1 + 1 + 1, 0, none⟩)], .int .i64 (x.1.1 : Nat), .string ⟨⟨x.1.2⟩⟩, undef, undef, undef, undef, undef], defers := [] }) ?assign ?body ?done ?stop
  case assign =>
    intro l x W K hK
    gi_wp2
    exact hK
  case body =>
    rintro l pre x W ⟨⟨hc, hcv, hown, hW4⟩, hB⟩ hlt
    have hkey : keyOf Tryz.prog 9 (.string ⟨⟨M.sum x.1.2⟩⟩) = some (.string (M.sum x.1.2)) := WideMaps.keyOf_string_mk Tryz.underlying9 (by show (M.sum x.1.2).length ≤ _; rw [M.len_sum]; unfold maxLen; omega)
    have hwf : (Lit.int .i64 (x.1.1 : Nat)).wf = true := by
      have := x.2.1
      show (decide (IntKind.i64.min ≤ ((x.1.1 : Nat) : Int)) && decide (((x.1.1 : Nat) : Int) ≤ IntKind.i64.max)) = true
      rw [show IntKind.i64.min = -9223372036854775808 from rfl, show IntKind.i64.max = 9223372036854775807 from rfl, Bool.and_eq_true, decide_eq_true_eq, decide_eq_true_eq]
      omega
    have HSUM := Lib.hid (fun (w1 : World) (h : Old W w1) => show Calls Tryz.prog 30 #[.string ⟨⟨x.1.2⟩⟩] w1 fun e w' => e = .returned (.string ⟨⟨M.sum x.1.2⟩⟩) ∧ Old w1 w' from sum_any ⟨⟨x.1.2⟩⟩ (by show x.1.2.length ≤ _; have := x.2.2; omega) w1 ((HT.out.old hB).old h))
    have hfS : Fence.wide.fn 30 := trivial
    have HOW := Lib.hid hown
    clear hown
    have hd : 1 ≤ 6 - 1 - 1 := by omega
    have hmx : Tryz.prog.follows .mixedOrders = true := by kernel_rfl
    have hcd : W.drew.cell? ⟨w.heap.size + 2, 0, none⟩ = some (.map (some (w.heap.size + 1))) := hc
    gi_wp2
    gi_region_with_o (gi_at_call 30; refine (CallsIn.inRound l (callsIn_wide.2 (HSUM.out W.drew (Old.drewN W 1)))).mono ?_; rintro e w1 ⟨rfl, ho1⟩; have hc1 := (ho1.cell (p := ⟨w.heap.size + 2, 0, none⟩) (World.block_lt_of_cell? _ _ hcd)).trans hcd; obtain ⟨w2, hrun, hown2, hg2⟩ := ((HOW.out.kept (grown_old ((Old.drewN W 1).trans ho1)) (by simp)).update keyString mapInts (by unfold maxLen; omega) hkey (plainElem_int Tryz.underlying3 hwf)))
    all_goals gi_wp2
    all_goals (
      have ho : Old W w1 := (Old.drewN W 1).trans ho1
      refine ⟨(KeepsFrom.of_grownBy (grown_old ho) (fun j e => by cases e)).trans (KeepsFrom.of_grownBy hg2 (fun j e => by injection e with e; rw [hsz]; omega)), ⟨Nat.le_trans ho.size hg2.size, fun k hk hM => (hg2.block k (by have := ho.size; omega) (fun e => hM (by injection e))).trans (ho.block k (by omega))⟩, ⟨grown_cell hg2 hc1 (by intro e; injection e with e; simp at e), grown_cell hg2 ((ho.cell (p := ⟨w.heap.size, 0, none⟩) (World.block_lt_of_cell? _ _ hcv)).trans hcv) (by intro e; injection e with e; simp at e), by rw [tally_snoc, List.length_append]; exact hown2, Nat.le_trans hW4 (Nat.le_trans ho.size hg2.size)⟩, (Below.trans hB (ho.mono hB.size)).grown hg2 (Nat.le_trans hB.size ho.size) (fun k e => by injection e with e; omega)⟩)
  case done =>
    rintro D ys W hD rfl ⟨⟨hc, hcv, hown, hW4⟩, hB⟩ hK
    rw [hsz] at hD
    rw [upto_length] at hown
    have hp := grownBy_putObj' W D (.deferred none)
    gi_wp2
    refine ⟨by simp, .inl ⟨_, _, rfl, run_takeDeferred hK, ?_⟩⟩
    exact ⟨_, results_tmp rfl _ _ _, rfl, grown_cell hp hc (by intro e; injection e with e; simp at e; omega), grown_cell hp hcv (by intro e; injection e with e; simp at e; omega), hown.kept hp (fun e => by injection e with e; omega), hB.grown hp hB.size (fun k e => by injection e with e; omega)⟩
  case stop =>
    rintro D c pre W _ _ h _
    exact h.elim
end Go.Proofs.YtabcobadglgfkaaGreatDoor

/- What the finder answers. -/
namespace Go.Proofs.YtabcobadglgfkaaGreatDoor
open Go.RowKit

theorem tally_map (l : List It) : ∃ es, tally l.reverse = .map es := by
  induction l with
  | nil => exact ⟨[], rfl⟩
  | cons x r ih =>
    obtain ⟨es, h⟩ := ih
    rw [List.reverse_cons, tally_snoc, h]
    exact ⟨_, rfl⟩
theorem tally_rev (d : List UInt8) (z : DataW Value) : ∀ l : List It, Maps.has (tally l.reverse) (.string d) = l.any (fun x => M.sum x.1.2 == d) ∧
    (tally l.reverse).atKey (.string d) z = match l.find? (fun x => M.sum x.1.2 == d) with | some x => .lit (.int .i64 (x.1.1 : Nat)) | none => z
  | [] => ⟨rfl, rfl⟩
  | x :: r => by
      obtain ⟨h1, h2⟩ := tally_rev d z r
      have hm : Maps.IsMap (tally r.reverse) := tally_map r
      rw [List.reverse_cons, tally_snoc]
      by_cases e : M.sum x.1.2 = d
      · subst e
        rw [Maps.has_put_same hm (show WideAt.IsKeyLit (.string _) from trivial), Maps.atKey_put_same hm (show WideAt.IsKeyLit (.string _) from trivial)]
        simp
      · rw [Maps.has_put_other (by intro h; injection h with h; exact e h.symm), Maps.atKey_put_other (by intro h; injection h with h; exact e h.symm), h1, h2]
        simp [e]
def enum (bs : List (List UInt8)) : List (Nat × List UInt8) := (List.range bs.length).map fun i => (i, bs[i]?.getD [])
theorem enum_snd (bs : List (List UInt8)) : (enum bs).map (·.2) = bs := by
  apply List.ext_getElem
  · simp [enum]
  · intro i h1 h2
    simp [enum, h2]
theorem items_rev (bs : List (List UInt8)) (hf : Fair bs) : ((upto (item bs hf) bs.length).reverse).map (·.1) = enum bs := by
  apply List.ext_getElem
  · simp [enum, upto]
  · intro i h1 h2
    have hi : i < bs.length := by simpa [enum] using h2
    simp only [upto, enum, List.getElem_map, List.getElem_reverse, List.getElem_range, List.length_map, List.length_range]
    rw [item_eq hf (by omega)]
    rw [show bs.length - 1 - (bs.length - 1 - i) = i by omega]
theorem find_enum (bs : List (List UInt8)) (d : List UInt8) : ((enum bs).find? fun y => M.sum y.2 == d).map (·.2) = M.find bs d := by
  have h := List.find?_map (f := fun y : Nat × List UInt8 => y.2) (p := fun b => M.sum b == d) (l := enum bs)
  rw [enum_snd] at h
  unfold M.find
  rw [h]; rfl
theorem found (bs : List (List UInt8)) (hf : Fair bs) (d : List UInt8) :
    (M.find bs d = none ∧ Maps.has (tally (upto (item bs hf) bs.length)) (.string d) = false) ∨
    ∃ i x, M.find bs d = some x ∧ bs[i]? = some x ∧ Maps.has (tally (upto (item bs hf) bs.length)) (.string d) = true ∧ (tally (upto (item bs hf) bs.length)).atKey (.string d) (.lit (.int .i64 0)) = .lit (.int .i64 (i : Nat)) := by
  have h := tally_rev d (.lit (.int .i64 0)) (upto (item bs hf) bs.length).reverse
  rw [List.reverse_reverse] at h
  have hm := List.find?_map (f := fun x : It => x.1) (p := fun y : Nat × List UInt8 => M.sum y.2 == d) (l := (upto (item bs hf) bs.length).reverse)
  rw [items_rev] at hm
  have he := find_enum bs d
  have hany : (upto (item bs hf) bs.length).reverse.any (fun x => M.sum x.1.2 == d) = ((upto (item bs hf) bs.length).reverse.find? (fun x => M.sum x.1.2 == d)).isSome := by
    rw [Bool.eq_iff_iff, List.find?_isSome, List.any_eq_true]
  rw [hany] at h
  rw [show ((fun y : Nat × List UInt8 => M.sum y.2 == d) ∘ fun x : It => x.1) = (fun x : It => M.sum x.1.2 == d) from rfl] at hm
  cases hx : (upto (item bs hf) bs.length).reverse.find? (fun x => M.sum x.1.2 == d) with
  | none =>
    rw [hx] at h hm
    left
    rw [hm] at he
    exact ⟨he.symm, h.1⟩
  | some x =>
    rw [hx] at h hm
    right
    rw [hm] at he
    have hmem : x.1 ∈ enum bs := by
      have := List.mem_of_find?_eq_some hm
      exact this
    obtain ⟨i, hi, e⟩ := List.mem_map.1 hmem
    have hi' : i < bs.length := by simpa using hi
    refine ⟨i, x.1.2, he.symm, ?_, h.1, ?_⟩
    · rw [← e]; simp [hi']
    · rw [h.2]
      show DataW.lit (.int .i64 (x.1.1 : Nat)) = _
      rw [← e]

set_option maxRecDepth 100000 in
set_option maxHeartbeats 1000000 in
/-- The finder's function: the first blob of a digest, or ErrNone. -/
theorem find1_any (Bm Bs b : Nat) (v : Value) (bs : List (List UInt8)) (hf : Fair bs) (d : List UInt8) (hd : d.length ≤ maxLen) (W : World) (hm : W.cell? ⟨Bm, 0, none⟩ = some (.map (some b))) (hs : W.cell? ⟨Bs, 0, none⟩ = some v)
    (hown : W.ownsMap Tryz.prog 9 (plainElem (H := Value) Tryz.prog 3) b bs.length (tally (upto (item bs hf) bs.length))) (hv : Sl W.heap.size W v (bs.map vstr)) :
    Calls Tryz.prog 128 #[S d, .pointer (some ⟨Bm, 0, none⟩), .pointer (some ⟨Bs, 0, none⟩)] W fun e w' =>
      e = .returned (.tuple #[S ((M.find bs d).getD []), .int .i64 (match M.find bs d with | some _ => 0 | none => 17)]) ∧ w' = W := by
  have hkey : keyOf Tryz.prog 9 (.string ⟨⟨d⟩⟩) = some (.string d) := WideMaps.keyOf_string_mk Tryz.underlying9 (by show d.length ≤ _; exact hd)
  obtain ⟨x, ps, hrun, hR⟩ := hown.look_ok keyString mapInts (Tryz.zeroValue3 W) (plainElem_int Tryz.underlying3 (by decide)) hkey
  obtain ⟨c, rfl, hc, _⟩ := plainElem_int_inv Tryz.underlying3 hR
  have hlen := hf.1
  obtain ⟨pv, cv, rfl⟩ : ∃ pv cv, v = .slice pv bs.length cv := by
    obtain ⟨p, c, e⟩ := hv.len
    exact ⟨p, c, by rw [e, List.length_map]⟩
  rcases found bs hf d with ⟨h1, h2⟩ | ⟨i, t, h1, h2, h3, h4⟩
  · rw [h1]
    rw [h2] at hrun
    clear hv
    go_enter Tryz.func128, Tryz.ntmps128
    go_wp2
    go_ret2
    exact ⟨rfl, rfl⟩
  · rw [h1]
    rw [h3] at hrun
    have hci : c = (i : Nat) := by
      injection hc with h5 h6
      rw [h4] at h5
      injection h5 with h5
      injection h5 with h5 h6
      exact h6.symm
    subst hci
    have hi : i < bs.length := (List.getElem?_eq_some_iff.1 h2).1
    obtain ⟨bb, off, rfl, hb, hcs⟩ := hv.at (by intro e; have := congrArg List.length e; simp at this; rw [this] at hi; simp at hi)
    have hcell : W.cell? ⟨bb, off + i, none⟩ = some (S t) := (hcs i (by simpa using hi)).trans (by simp [h2, vstr])
    clear hcs hv hc hR h4
    go_enter Tryz.func128, Tryz.ntmps128
    go_wp2
    go_ret2
    exact ⟨rfl, rfl⟩
end Go.Proofs.YtabcobadglgfkaaGreatDoor

/- What files a digest is of: the state of the closures, and one more file. -/
namespace Go.Proofs.YtabcobadglgfkaaGreatDoor
open Go.RowKit

/-- Where the closures' variables lie, and what the finder has. -/
structure Cx where
  b6 : Nat
  b7 : Nat
  b8 : Nat
  b9 : Nat
  b10 : Nat
  bm : Nat
  bs : Nat
  mb : Nat
  base : Nat
  v : Value
  l : List (List UInt8)
def cFoot (c : Cx) (w : World) (k : Nat) : Prop := k = c.b7 ∨ k = c.b9 ∨ ∃ v, w.cell? ⟨c.b7, 0, none⟩ = some v ∧ v.ownBlock = some k
/-- How many directories there were, and which files. -/
structure CSt (c : Cx) (s : M.St) (w : World) (v : Value) : Prop where
  box : Blk w c.b7 #[v] 22
  row : Own c.base w v s.2
  cnt : Blk w c.b9 #[.int .i64 (s.1 : Nat)] 3
  l7 : c.b7 < c.base
  l9 : c.b9 < c.base
  ne : c.b7 ≠ c.b9
  le : c.base ≤ w.heap.size
  few : s.2.length ≤ 32
  dirs : s.1 ≤ 1000
  small : ∀ f ∈ s.2, f.1.length ≤ 200000 ∧ f.2.length ≤ 1000000
  g7 : ∀ k, (k = 2 ∨ k = 0 ∨ k = 1 ∨ k = 5) → k < c.b7
  g9 : ∀ k, (k = 2 ∨ k = 0 ∨ k = 1 ∨ k = 5) → k < c.b9
def cI (c : Cx) (s : M.St) (w : World) : Prop := ∃ v, CSt c s w v
theorem CSt.foot {c : Cx} {s : M.St} {w : World} {v : Value} (h : CSt c s w v) {k : Nat} : cFoot c w k ↔ k = c.b7 ∨ k = c.b9 ∨ v.ownBlock = some k := by
  have hc := h.box.cellN 0 rfl
  unfold cFoot
  rw [hc]
  constructor
  · rintro (e | e | ⟨u, hu, e⟩)
    · exact Or.inl e
    · exact Or.inr (Or.inl e)
    · have hu : v = u := by injection hu
      subst hu
      exact Or.inr (Or.inr e)
  · rintro (e | e | e)
    · exact Or.inl e
    · exact Or.inr (Or.inl e)
    · exact Or.inr (Or.inr ⟨v, rfl, e⟩)
theorem visit_c (c : Cx) : Visit (cFoot c) (cI c) where
  stay := by
    rintro S s w w' ⟨v, h⟩ hk hd
    have h7 : ¬ S c.b7 := hd _ (h.foot.2 (Or.inl rfl))
    have h9 : ¬ S c.b9 := hd _ (h.foot.2 (Or.inr (Or.inl rfl)))
    have hr : Own c.base w' v s.2 := by
      refine ⟨h.row.1, ?_⟩
      rcases h.row.2 with hn | ⟨g, cap, cur, hv, hB, hb, rest⟩
      · exact Or.inl hn
      · exact Or.inr ⟨g, cap, cur, hv, hB, (hk.block g (Array.getElem?_eq_some_iff.1 hb).1 (hd g (h.foot.2 (Or.inr (Or.inr (by rw [hv]; rfl)))))).trans hb, rest⟩
    have h' : CSt c s w' v := ⟨h.box.keep hk h7, hr, h.cnt.keep hk h9, h.l7, h.l9, h.ne, Nat.le_trans h.le hk.size, h.few, h.dirs, h.small, h.g7, h.g9⟩
    exact ⟨⟨v, h'⟩, fun k hf => h.foot.2 (h'.foot.1 hf)⟩
  lt := by
    rintro s w k ⟨v, h⟩ hf
    rcases h.foot.1 hf with rfl | rfl | e
    · exact h.box.lt
    · exact h.cnt.lt
    · exact row_lt h.row k e
  glob := by
    rintro s w k ⟨v, h⟩ hf
    have hno : ∀ j, (j = 2 ∨ j = 0 ∨ j = 1 ∨ j = 5) → k ≠ j := fun j hj e => by
      have a7 := h.g7 j hj
      have a9 := h.g9 j hj
      rcases h.foot.1 hf with e1 | e1 | e1
      · omega
      · omega
      · have := row_from h.row k e1
        have := h.l7
        omega
    exact ⟨hno _ (Or.inl rfl), hno _ (Or.inr (Or.inl rfl)), hno _ (Or.inr (Or.inr (Or.inl rfl))), hno _ (Or.inr (Or.inr (Or.inr rfl)))⟩

abbrev pt (b : Nat) : Value := .pointer (some ⟨b, 0, none⟩)
/-- What stays while the closures are called. -/
structure Ctx (c : Cx) (w : World) : Prop where
  c6 : w.cell? ⟨c.b6, 0, none⟩ = some (.func (.func 128) #[] #[pt c.bm, pt c.bs])
  c8 : w.cell? ⟨c.b8, 0, none⟩ = some (.func (.func 93) #[] #[pt c.b6, pt c.b7])
  c10 : w.cell? ⟨c.b10, 0, none⟩ = some (.func (.func 94) #[] #[pt c.b9, pt c.b6, pt c.b10, pt c.b8])
  cm : w.cell? ⟨c.bm, 0, none⟩ = some (.map (some c.mb))
  cs : w.cell? ⟨c.bs, 0, none⟩ = some c.v
  own : ∀ hf : Fair c.l, w.ownsMap Tryz.prog 9 (plainElem (H := Value) Tryz.prog 3) c.mb c.l.length (tally (upto (item c.l hf) c.l.length))
  sl : Sl w.heap.size w c.v (c.l.map vstr)
  s6 : Safe (cFoot c) w c.b6
  s8 : Safe (cFoot c) w c.b8
  s10 : Safe (cFoot c) w c.b10
  sm : Safe (cFoot c) w c.bm
  ss : Safe (cFoot c) w c.bs
  sM : Safe (cFoot c) w c.mb
  sv : c.l ≠ [] → ∀ g, c.v.ownBlock = some g → Safe (cFoot c) w g
  env : Env w
theorem Vis.sl0 {Foot : World → Nat → Prop} {w w' : World} {B : Nat} {v : Value} {xs : List Value} (h : Vis Foot w w') (k : Sl B w v xs) (hb : xs ≠ [] → ∀ g, v.ownBlock = some g → Safe Foot w g) : Sl B w' v xs := by
  obtain ⟨p, cap, hv, h0, hx⟩ := k
  refine ⟨p, cap, hv, h0, fun hne => ?_⟩
  obtain ⟨b, off, hp, hB, hc⟩ := hx hne
  have hs : Safe Foot w b := hb hne b (by rw [hv, hp]; rfl)
  exact ⟨b, off, hp, hB, fun j hj => (h.cell (p := ⟨b, off + j, none⟩) hs).trans (hc j hj)⟩
theorem Ctx.vis {c : Cx} {w w' : World} {s : M.St} (h : Ctx c w) (hI : cI c s w) (k : Vis (cFoot c) w w') : Ctx c w' where
  c6 := (k.cell (p := ⟨c.b6, 0, none⟩) h.s6).trans h.c6
  c8 := (k.cell (p := ⟨c.b8, 0, none⟩) h.s8).trans h.c8
  c10 := (k.cell (p := ⟨c.b10, 0, none⟩) h.s10).trans h.c10
  cm := (k.cell (p := ⟨c.bm, 0, none⟩) h.sm).trans h.cm
  cs := (k.cell (p := ⟨c.bs, 0, none⟩) h.ss).trans h.cs
  own := fun hf => by
    obtain ⟨es, clock, hb, F, hs, hD⟩ := h.own hf
    exact ⟨es, clock, (k.block h.sM).trans hb, F, hs, hD⟩
  sl := (k.sl0 h.sl (fun hne => h.sv (by simpa using hne))).mono k.size
  s6 := k.safe h.s6
  s8 := k.safe h.s8
  s10 := k.safe h.s10
  sm := k.safe h.sm
  ss := k.safe h.ss
  sM := k.safe h.sM
  sv := fun hne g hg => k.safe (h.sv hne g hg)
  env := k.env (visit_c c) hI h.env
theorem Ctx.old {c : Cx} {w w' : World} {s : M.St} (h : Ctx c w) (hI : cI c s w) (k : Old w w') : Ctx c w' := h.vis hI (Vis.of_old (visit_c c) hI k)

/-- What a closure leaves. -/
def CPost (c : Cx) (x : M.St × Int) (w : World) (e : Ending) (w' : World) : Prop := e = .returned (.int .i64 x.2) ∧ cI c x.1 w' ∧ Vis (cFoot c) w w'

theorem find_small {l : List (List UInt8)} (hf : Fair l) {d x : List UInt8} (h : M.find l d = some x) : x.length ≤ 1000000 := hf.2 x (List.mem_of_find?_eq_some h)

set_option maxHeartbeats 2000000 in
set_option maxRecDepth 100000 in
theorem addFile_any (c : Cx) (hf : Fair c.l) (s : M.St) (p d : List UInt8) (hp : p.length ≤ 200000) (hd : d.length ≤ maxLen) (w : World) (hI : cI c s w) (hC : Ctx c w) :
    Calls Tryz.prog 93 #[S p, S d, pt c.b6, pt c.b7] w (CPost c (M.addFile c.l p d s) w) := by
  obtain ⟨i0, hi, hz0, hz1, hz2⟩ := info_parts infoFile
  have hI0 := hI
  obtain ⟨v, hst⟩ := hI
  have h6 := hC.c6
  have HF := Lib.hid (find1_any c.bm c.bs c.mb c.v c.l hf d hd w hC.cm hC.cs (hC.own hf) hC.sl)
  have eF : ∀ args w, (callFunc 128 args).run Tryz.prog w = .ok (.enter 128 args) w := enters_of Tryz.func128 (by kernel_rfl) rfl
  have HST := Lib.hid hst
  have HI := Lib.hid hI0
  have h7 := hst.box.cellN 0 rfl
  have hfew := hst.few
  obtain ⟨q, cq, rfl⟩ := hst.row.fl.len
  unfold M.addFile
  clear hC hst hI0
  cases hx : M.find c.l d with
  | none =>
    rw [hx] at HF
    clear hx
    go_enter Tryz.func93, Tryz.ntmps93
    go_wp2_with (go_at_fn 128; refine HF.out.mono ?_; rintro e w1 ⟨rfl, rfl⟩)
    go_ret
    exact ⟨rfl, HI.out, Vis.refl _⟩
  | some x =>
    have hxs := find_small hf hx
    rw [hx] at HF
    clear hx
    simp only
    by_cases h32 : s.2.length = 32
    · rw [if_pos h32]
      have h32' : ((s.2.length : Nat) : Int) = 32 := by omega
      go_enter Tryz.func93, Tryz.ntmps93
      go_wp2_with (go_at_fn 128; refine HF.out.mono ?_; rintro e w1 ⟨rfl, rfl⟩)
      go_ret
      exact ⟨rfl, HI.out, Vis.refl _⟩
    · rw [if_neg h32]
      have hownA : Own c.base (w.alloc (.cells #[S p, S x] 54)) (.slice q s.2.length cq) s.2 := HST.out.row.old (Old.alloc _ _)
      have HNW := Lib.hid (World.news_of_block (heap_alloc_new w (.cells #[S p, S x] 54)))
      have HBX := Lib.hid (HST.out.box.alloc (.cells #[S p, S x] 54))
      have HCN := Lib.hid (HST.out.cnt.alloc (.cells #[S p, S x] 54))
      have hB1 : s.2.length + 1 ≤ maxLen := by unfold maxLen; omega
      have hB2 : (s.2.length + 1) * 32 ≤ 140737488355328 := by omega
      have hB3 : c.base ≤ (w.alloc (.cells #[S p, S x] 54)).heap.size := by rw [World.size_alloc]; have := HST.out.le; omega
      have h32' : ¬ ((s.2.length : Nat) : Int) = 32 := by omega
      go_enter Tryz.func93, Tryz.ntmps93
      go_wp2_with (first
        | (go_at_fn 128; refine HF.out.mono ?_; rintro e w1 ⟨rfl, rfl⟩)
        | (at_builtin; refine wpList_append_own_at _ rfl _ _ 22 rfl c.base 54 i0 _ 2 32 Tryz.underlying22 hi hz0 hz1 hz2 rfl (by decide) _ _ _ rfl hownA ⟨w1.heap.size, 0, none⟩ 1 1 [S p, S x] rfl rfl HNW.out (by intro u hu; simp only [List.mem_cons, List.not_mem_nil, or_false] at hu; rcases hu with rfl | rfl <;> rfl) hB1 hB2 hB3 ?_))
      intro v' w3 hown3 hgrow3 _ hat3
      have hcr : (Value.slice q s.2.length cq).ownBlock ≠ some c.b7 := fun e => by have := row_from HST.out.row c.b7 e; have := HST.out.l7; omega
      have hcr9 : (Value.slice q s.2.length cq).ownBlock ≠ some c.b9 := fun e => by have := row_from HST.out.row c.b9 e; have := HST.out.l9; omega
      have hbx3 := HBX.out.grown hgrow3 hcr
      have hcn3 := HCN.out.grown hgrow3 hcr9
      have hc3 := hbx3.cellN 0 rfl
      have hf3 := hbx3.free 0
      have hrow3 : Own c.base w3 v' (s.2 ++ [(p, x)]) := by
        show w3.ownsRow c.base 54 2 v' (s.2 ++ [(p, x)]).length (cells (s.2 ++ [(p, x)]))
        rw [cells_append, cells_one, List.length_append]
        exact hown3
      have hcv : v'.ownBlock ≠ some c.b7 := fun e => by have := row_from hrow3 c.b7 e; have := HST.out.l7; omega
      obtain ⟨pv, nv, cv, rfl⟩ : ∃ p n c, v' = .slice p n c := by
        obtain ⟨a, b, e⟩ := hrow3.fl.len
        exact ⟨_, _, _, e⟩
      have HN := Lib.hid (show CSt c (s.1, s.2 ++ [(p, x)]) (w3.setCell ⟨c.b7, 0, none⟩ (.slice pv nv cv)) (.slice pv nv cv) from
        ⟨hbx3.set 0 _, row_other hrow3 hcv 0 _, hcn3.setOther (fun e => HST.out.ne e.symm) _, HST.out.l7, HST.out.l9, HST.out.ne, Nat.le_trans hB3 (Nat.le_trans hgrow3.size (by simp [World.setCell])), by
          show (s.2 ++ [(p, x)]).length ≤ 32
          rw [List.length_append, List.length_singleton]
          omega, HST.out.dirs, fun f hf => by
          rcases List.mem_append.1 hf with hf | hf
          · exact HST.out.small f hf
          · rw [List.mem_singleton] at hf
            subst hf
            exact ⟨hp, hxs⟩, HST.out.g7, HST.out.g9⟩)
      have HKP := Lib.hid (show Keep (fun k => cFoot c w1 k ∨ w1.heap.size ≤ k) w1 (w3.setCell ⟨c.b7, 0, none⟩ (.slice pv nv cv)) from
        (((Keep.refl _ w1).alloc _).grown hgrow3 (fun k hk => Or.inr (Or.inl (HST.out.foot.2 (Or.inr (Or.inr hk)))))).setCell (p := ⟨c.b7, 0, none⟩) (Or.inr (Or.inl (HST.out.foot.2 (Or.inl rfl)))) _)
      have HFT := Lib.hid (fun k (hk : cFoot c (w3.setCell ⟨c.b7, 0, none⟩ (.slice pv nv cv)) k) => show cFoot c w1 k ∨ w1.heap.size ≤ k from by
        rcases HN.out.foot.1 hk with e | e | e
        · exact Or.inl (HST.out.foot.2 (Or.inl e))
        · exact Or.inl (HST.out.foot.2 (Or.inr (Or.inl e)))
        · rcases hat3 with h | h
          · exact Or.inl (HST.out.foot.2 (Or.inr (Or.inr (h ▸ e))))
          · rw [h] at e
            injection e with e
            exact Or.inr (by have : (w1.alloc (.cells #[S p, S x] 54)).heap.size = w1.heap.size + 1 := by simp
                             omega))
      clear hown3 hgrow3 hat3 hrow3 hownA hbx3 hcn3
      go_wp2
      go_ret
      exact ⟨rfl, ⟨_, HN.out⟩, ⟨HKP.out, HFT.out⟩⟩
end Go.Proofs.YtabcobadglgfkaaGreatDoor
