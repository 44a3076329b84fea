/- Merged of: TreeRE. -/
import Derived.Test.YtabcobadglgfkaaGreatDoorMT6
import Derived.Test.YtabcobadglgfkaaGreatDoorMP2
import Derived.Test.YtabcobadglgfkaaGreatDoorMT4
import Derived.Deep.RegionHeld3
import Derived.Deep.AppendLies
/- The document's entries that bytes are. -/
namespace Go.Proofs.YtabcobadglgfkaaGreatDoor
open Go.RowKit

/-- The document's reader keeps what is left when something is wrong: seen as the program's. -/
def clp (r : List UInt8 × Int) : List UInt8 × Int := if r.2 ≠ 0 then ([], r.2) else r
theorem clp_ok {r : List UInt8 × Int} (h : r.2 = 0) : clp r = r := by unfold clp; rw [if_neg (by simpa using h)]
theorem clp_bad {r : List UInt8 × Int} (h : r.2 ≠ 0) : clp r = ([], r.2) := by unfold clp; rw [if_pos h]
theorem list_clp {r : List UInt8 × Int} (h0 : r.2 = 0) : listS r = ((rlistS r).1, clp (rlistS r).2) := by
  obtain ⟨l, x⟩ := r
  simp only at h0
  subst h0
  by_cases hc : (M.cut l).2.2 = 0
  · have e : nextS (l, 0) = ((M.cut l).1, true, ((M.cut l).2.1, 0)) := by simp [nextS, hc]
    have e2 : rtextS (l, 0) = ((M.cut l).1, ((M.cut l).2.1, 0)) := by simp [rtextS, hc]
    unfold listS rlistS
    rw [e, e2]
    cases M.unpk (M.cut l).1 <;> simp [clp]
  · have e : nextS (l, 0) = ([], false, ([], (M.cut l).2.2)) := by simp [nextS, hc]
    have e2 : rtextS (l, 0) = ([], (l, (M.cut l).2.2)) := by simp [rtextS, hc]
    unfold listS rlistS
    rw [e, e2]
    simp [clp, hc]
theorem clp_len (r : List UInt8 × Int) : (clp r).1.length ≤ r.1.length := by
  unfold clp; split <;> simp
theorem left_clp (r : List UInt8 × Int) : ((if r.2 ≠ 0 then 0 else r.1.length : Nat) : Int) = ((clp r).1.length : Nat) := by
  unfold clp; split <;> simp
theorem Readin.kind {d : List UInt8} {es : List M.En} {r : List UInt8 × Int} {l0 l1 l2 : List UInt8} (h : Readin d es r) (hne : r.1 ≠ []) (hl : (listS r).1 = [l0, l1, l2]) (h1 : l1 ≠ [100]) (h2 : l1 ≠ [102]) : M.decode d = none := by
  cases hd : M.decode d with
  | none => rfl
  | some xs =>
    obtain ⟨q1, q2⟩ := M.decode_some hd
    obtain ⟨y, ys, _, e⟩ := h.next hne q1 q2
    rw [e] at hl
    simp only [List.cons.injEq, and_true] at hl
    obtain ⟨_, rfl, _⟩ := hl
    cases hy : y.2.1 <;> simp [M.mark, hy] at h1 h2
theorem Readin.fault {d : List UInt8} {es : List M.En} {r : List UInt8 × Int} (h : Readin d es r) (h1 : r.2 ≠ 0) : M.decode d = none := by
  cases hd : M.decode d with
  | none => rfl
  | some xs =>
    obtain ⟨q1, q2⟩ := M.decode_some hd
    obtain ⟨ys, _, e⟩ := h xs q1 q2
    rw [e] at h1
    exact absurd rfl h1
theorem rlist_rest (r : List UInt8 × Int) : (rlistS r).2.1.length ≤ r.1.length := by
  have h := (rtextS_len r).2
  unfold rlistS
  split
  · exact h
  · split <;> exact h
theorem rlist_less {r : List UInt8 × Int} (h : r.1 ≠ []) (h0 : r.2 = 0) : rm (rlistS r).2 < rm r ∧ (clp (rlistS r).2).1.length < r.1.length := by
  have h1 := (listS_less h h0).1
  rw [list_clp h0] at h1
  refine ⟨?_, h1⟩
  unfold rm
  rw [if_pos h0]
  by_cases h2 : (rlistS r).2.2 = 0
  · rw [clp_ok h2] at h1
    rw [if_pos h2]
    simpa using h1
  · rw [if_neg h2]; omega

set_option maxHeartbeats 4000000 in
set_option maxRecDepth 100000 in
theorem rdecode_any (d : List UInt8) (w : World) (hl : d.length ≤ 1000000) :
    Calls Tryz.prog 22 #[S d] w (DecPost d w) := by
  obtain ⟨i0, hi, hz0, hz1, hz2⟩ := info_parts infoEntry
  have HR0 := Lib.hid (show Rr (w.alloc (.cells #[.string ⟨⟨d⟩⟩, .int .i64 0] 69)) w.heap.size (d, 0) from Blk.new w _ _)
  go_enter Tryz.func22, Tryz.ntmps22
  go_wp2
  go_loopw [5] (fun u wr => ∃ (es : List M.En) (r : List UInt8 × Int), EOwn (w.heap.size + 1) wr u es ∧ Rr wr w.heap.size r ∧ r.1.length ≤ d.length ∧ es.length + (clp r).1.length ≤ d.length ∧ (∀ e ∈ es, e.1.length ≤ 1000000 ∧ e.2.2.length ≤ 1000000) ∧ Readin d es (clp r) ∧ Old w wr) (fun _ wr => restR wr w.heap.size)
  case atStart => exact ⟨[], (d, 0), EOwn.nil _ _, HR0.out, Nat.le_refl _, by simp [clp], by simp, by rw [clp_ok rfl]; exact Readin.start d, Old.alloc _ _⟩
  case round =>
    obtain ⟨es, r, hown, hr, hrl, hlen, hsm, hin, ho⟩ := hrel
    have HL := Lib.hid (show Calls Tryz.prog 48 #[.pointer (some ⟨w.heap.size, 0, none⟩)] wr (fun e w' => e = .returned (.int .i64 ((clp r).1.length : Nat)) ∧ wr = w') from by
      have := rleft_any w.heap.size r wr hr
      rwa [show (if r.2 ≠ 0 then (0 : Int) else (r.1.length : Int)) = ((clp r).1.length : Nat) from by unfold clp; split <;> simp] at this)
    have HLI := Lib.hid (rrlist_any w.heap.size r wr hr (by omega))
    have HEND := Lib.hid (rend_any w.heap.size r wr hr)
    have HRL := Lib.hid (Rr.len hr)
    have HOWN := Lib.hid hown
    have HIN := Lib.hid hin
    have HO := Lib.hid ho
    have HSM := Lib.hid hsm
    have HR := Lib.hid hr
    clear hown hin ho hsm hr HR0
    by_cases hne : (clp r).1 = []
    · have hL0 : (((clp r).1.length : Nat) : Int) = 0 := by rw [hne]; rfl
      obtain ⟨pu, cu, rfl⟩ := HOWN.out.el.len
      by_cases h2 : r.2 = 0
      · have hee : endOf r = 0 := by
          rw [clp_ok h2] at hne
          unfold endOf
          rw [if_neg (by simpa using h2), if_neg (by simpa using hne)]
        rw [hee] at HEND
        have HDN := Lib.hid (HIN.out.done hne)
        have HRT := Lib.hid (right_any (.slice pu es.length cu) es wr HOWN.out.el (by unfold maxLen; omega) (fun e he => by have := HSM.out e he; unfold maxLen; omega))
        clear hne hee h2
        by_cases hrt : M.right es = true
        · have HBY := Lib.hid (fun n => rbytes_any (.slice pu es.length cu) es (wr.drewN n) (HOWN.out.el.drewN n) (by unfold maxLen; omega) (by have := bytes_len (right_all hrt); omega))
          rw [hrt] at HRT
          by_cases hx : M.bytes es = d
          · rw [if_pos ⟨hrt, hx⟩] at HDN
            rw [hx] at HBY
            clear hrt hx
            go_wp2_with (first
              | ((with_reducible refine HL.out.mono ?_); rintro e w' ⟨rfl, rfl⟩)
              | ((with_reducible refine HEND.out.mono ?_); rintro e w' ⟨rfl, rfl⟩)
              | ((with_reducible refine HRT.out.mono ?_); rintro e w2 ⟨rfl, n, rfl⟩)
              | ((with_reducible refine (HBY.out n).mono ?_); rintro e w3 ⟨rfl, ho3⟩; have ho2 := (Old.drewN wr n).trans ho3))
            go_ret2
            exact ⟨_, by rw [HDN.out] <;> rfl, by rw [HDN.out]; exact HOWN.out.el.old ho2, fun b hb => ⟨by have := row_from HOWN.out b hb; omega, by have := row_lt HOWN.out b hb; have := ho2.size; omega⟩, HO.out.trans ho2⟩
          · rw [if_neg (fun h => hx h.2)] at HDN
            have hdd : (M.bytes es == d) = false := by rw [beq_list]; exact decide_eq_false hx
            clear hrt hx
            generalize M.bytes es = bs at *
            go_wp2_with (first
              | ((with_reducible refine HL.out.mono ?_); rintro e w' ⟨rfl, rfl⟩)
              | ((with_reducible refine HEND.out.mono ?_); rintro e w' ⟨rfl, rfl⟩)
              | ((with_reducible refine HRT.out.mono ?_); rintro e w2 ⟨rfl, n, rfl⟩)
              | ((with_reducible refine (HBY.out n).mono ?_); rintro e w3 ⟨rfl, ho3⟩; have ho2 := (Old.drewN wr n).trans ho3))
            go_ret2
            exact DecPost.no HDN.out (HO.out.trans ho2)
        · rw [Bool.not_eq_true] at hrt
          rw [if_neg (fun h => by rw [hrt] at h; cases h.1)] at HDN
          rw [hrt] at HRT
          clear hrt
          go_wp2_with (first
            | ((with_reducible refine HL.out.mono ?_); rintro e w' ⟨rfl, rfl⟩)
            | ((with_reducible refine HEND.out.mono ?_); rintro e w' ⟨rfl, rfl⟩)
            | ((with_reducible refine HRT.out.mono ?_); rintro e w2 ⟨rfl, n, rfl⟩))
          go_ret2
          exact DecPost.no HDN.out (HO.out.trans (Old.drewN wr n))
      · have hee : endOf r = r.2 := by unfold endOf; rw [if_pos h2]
        rw [hee] at HEND
        have HDN := Lib.hid (HIN.out.fault (by rw [clp_bad h2]; exact h2))
        have h2' : (r.2 != 0) = true := by simpa using h2
        clear hne hee
        generalize r.2 = x at *
        go_wp2_with (first
          | ((with_reducible refine HL.out.mono ?_); rintro e w' ⟨rfl, rfl⟩)
          | ((with_reducible refine HEND.out.mono ?_); rintro e w' ⟨rfl, rfl⟩))
        go_ret2
        exact DecPost.no HDN.out HO.out
    · have h0 : r.2 = 0 := Classical.byContradiction (fun h => hne (by rw [clp_bad h]))
      have hrc := clp_ok h0
      rw [hrc] at HL HIN hlen hne
      have hpos : (0 : Int) < (r.1.length : Nat) := by have := List.length_pos_iff.2 hne; omega
      have HLS := Lib.hid (rlist_less hne h0)
      have HRR := Lib.hid (rlist_rest r)
      have HSS := Lib.hid (listS_small (r := r))
      have HEQ := Lib.hid (list_clp h0)
      have hlt := HR.out.lt
      rw [HEQ.out] at HSS
      by_cases h3 : (rlistS r).1.length = 3
      · obtain ⟨l0, l1, l2, h012⟩ : ∃ l0 l1 l2, (rlistS r).1 = [l0, l1, l2] := by
          match hx : (rlistS r).1, h3 with
          | [a, b, c], _ => exact ⟨a, b, c, rfl⟩
        have HST := Lib.hid (show Readin d (es ++ [(l0, l1 == [100], l2)]) (clp (rlistS r).2) from by
          have := HIN.out.step hne (show (listS r).1 = [l0, l1, l2] from by rw [HEQ.out]; exact h012)
          rwa [HEQ.out] at this)
        have HKD := Lib.hid (fun a b => HIN.out.kind hne (show (listS r).1 = [l0, l1, l2] from by rw [HEQ.out]; exact h012) a b)
        rw [h012] at HSS
        have hs0 := HSS.out l0 (by simp)
        have hs1 := HSS.out l1 (by simp)
        have hs2 := HSS.out l2 (by simp)
        have H12 := Lib.hid h012
        clear h012 h3 hne h0 hrc
        obtain ⟨pu, cu, rfl⟩ := HOWN.out.el.len
        by_cases hk1 : l1 = [100]
        · have hq1 : (l1 == [100]) = true := by rw [beq_list]; exact decide_eq_true hk1
          rw [hq1] at HST
          clear hk1 HKD
          go_wp2_with (first
            | ((with_reducible refine HL.out.mono ?_); rintro e w' ⟨rfl, rfl⟩)
            | (((with_reducible refine HLI.out.mono ?_); rintro e w1 ⟨v, rfl, hsl, hvb, hrd, hkp⟩; rw [H12.out] at hsl; obtain ⟨pv, cv, rfl⟩ := hsl.len; obtain ⟨b, off, rfl, hb, hc⟩ := hsl.at (by simp); have hc0 := hc 0 (by simp); have hc1 := hc 1 (by simp); have hc2 := hc 2 (by simp); simp at hc0 hc1 hc2; go_upto_region 7 with (fail))))
          have hown1 : EOwn (w.heap.size + 1) w1 (.slice pu es.length cu) es := row_keep HOWN.out hkp (fun g hg e => by omega)
          have hs1z := hkp.size
          have HC2 := Lib.hid (show ∀ u ∈ [S l0, Value.bool true, S l2], u.oneCell' = true from by
            intro u hu
            simp only [List.mem_cons, List.not_mem_nil, or_false] at hu
            rcases hu with rfl | rfl | rfl <;> rfl)
          have HC3 := Lib.hid (show es.length + 1 ≤ maxLen by unfold maxLen; omega)
          have HC4 := Lib.hid (show (es.length + 1) * 40 ≤ 140737488355328 by omega)
          have HC5 := Lib.hid (show w.heap.size + 1 ≤ w1.heap.size + 1 by omega)
          have hnb : (Value.slice pu es.length cu).ownBlock ≠ some b := fun e => by have h1 := hvb b rfl; have h2 := row_lt HOWN.out b e; omega
          have HK := Lib.hid (show ∀ (W w2 : World) (row : Option Nat), Old w1 W → W.grownBy w2 row → row ≠ some b → w2.cell? ⟨b, off, none⟩ = some (S l0) ∧ w2.cell? ⟨b, off + 1, none⟩ = some (S l1) ∧ w2.cell? ⟨b, off + 2, none⟩ = some (S l2) from fun W w2 row h1 h2 h3 => by
            have hbl : w2.heap[b]? = w1.heap[b]? := (h2.block b (by have := h1.size; omega) (fun e => h3 e.symm)).trans (h1.block b hb)
            exact ⟨(World.cell?_of_block (w := w1) (a := ⟨b, off, none⟩) hbl).trans hc0, (World.cell?_of_block (w := w1) (a := ⟨b, off + 1, none⟩) hbl).trans hc1, (World.cell?_of_block (w := w1) (a := ⟨b, off + 2, none⟩) hbl).trans hc2⟩)
          apply cut_here
          · intro key
            go_region_held3 (fun w' => w'.cell? ⟨b, off, none⟩ = some (S l0) ∧ w'.cell? ⟨b, off + 1, none⟩ = some (S l1) ∧ w'.cell? ⟨b, off + 2, none⟩ = some (S l2)) (first | go_keep | exact HK.out _ _ _ ((Old.alloc w1 _).trans (Old.drewN _ 1)) hgrow hnb) (first | (refine step_append_lies _ (by rfl) _ _ _ (by rfl) (w.heap.size + 1) 33 i0 _ 3 40 Tryz.underlying26 hi hz0 hz1 hz2 (by rfl) (by decide) (.slice pu es.length cu) es.length (ecells es) (by rfl) (hown1.alloc _).drew ⟨w1.heap.size, 0, none⟩ 1 1 [S l0, .bool true, S l2] (by rfl) (by rfl) (World.news_of_block (fr := (0, 0)) (t := 33) (cs := #[S l0, .bool true, S l2]) (heap_alloc_last w1 _)) HC2.out (by decide) HC3.out HC4.out (by simp; omega) _ rfl ?_); intro g cap w2 hown2 hgrow hat hlt2)
            all_goals (revert g cap w2 hown2 hgrow hat hlt2; exact key.out)
          intro g cap w2 hown2 hgrow _ _ _
          have hnw : (Value.slice pu es.length cu).ownBlock ≠ some w.heap.size := fun e => by have := row_from HOWN.out _ e; omega
          have hrd2 : Rr w2 w.heap.size (rlistS r).2 := Blk.grown (Blk.drewN (Blk.alloc hrd _) 1) hgrow hnw
          have ho2 : Old w w2 := by
            refine Keep.old (S := fun k => w.heap.size ≤ k) ?_ (fun k hk e => by omega)
            refine ((((Keep.of_old HO.out).trans (hkp.mono (fun k _ hk => by omega))).alloc _).drewN 1).grown hgrow (fun k hk => Or.inr ?_)
            have := row_from HOWN.out k hk
            omega
          have hown3 : EOwn (w.heap.size + 1) w2 (.slice (some ⟨g, 0, none⟩) (es.length + 1) cap) (es ++ [(l0, true, l2)]) := by
            show w2.ownsRow (w.heap.size + 1) 33 3 _ (es ++ [(l0, true, l2)]).length (ecells (es ++ [(l0, true, l2)]))
            rw [ecells_append, ecells_one, List.length_append]
            exact hown2
          have HO3 := Lib.hid hown3
          have HRD2 := Lib.hid hrd2
          have hm2 := Rr.len hrd2
          clear hown2 hgrow hown3 hrd2
          go_wp2
          go_roundw
          case rel => exact ⟨es ++ [(l0, true, l2)], (rlistS r).2, HO3.out, HRD2.out, Nat.le_trans HRR.out hrl, by have := HLS.out.2; rw [List.length_append]; simp only [List.length_singleton]; omega, (fun e he => by
            rcases List.mem_append.1 he with he | he
            · exact HSM.out e he
            · rw [List.mem_singleton] at he
              subst he
              exact ⟨by show l0.length ≤ _; omega, by show l2.length ≤ _; omega⟩), HST.out, ho2⟩
          case measure => rw [hm2, HRL.out]; exact HLS.out.1
        · have hq1 : (l1 == [100]) = false := by rw [beq_list]; exact decide_eq_false hk1
          rw [hq1] at HST
          by_cases hk2 : l1 = [102]
          · have hq2 : (l1 == [102]) = true := by rw [beq_list]; exact decide_eq_true hk2
            clear hk1 hk2 HKD
            go_wp2_with (first
              | ((with_reducible refine HL.out.mono ?_); rintro e w' ⟨rfl, rfl⟩)
              | (((with_reducible refine HLI.out.mono ?_); rintro e w1 ⟨v, rfl, hsl, hvb, hrd, hkp⟩; rw [H12.out] at hsl; obtain ⟨pv, cv, rfl⟩ := hsl.len; obtain ⟨b, off, rfl, hb, hc⟩ := hsl.at (by simp); have hc0 := hc 0 (by simp); have hc1 := hc 1 (by simp); have hc2 := hc 2 (by simp); simp at hc0 hc1 hc2; go_upto_region 7 with (fail))))
            have hown1 : EOwn (w.heap.size + 1) w1 (.slice pu es.length cu) es := row_keep HOWN.out hkp (fun g hg e => by omega)
            have hs1z := hkp.size
            have HC2 := Lib.hid (show ∀ u ∈ [S l0, Value.bool false, S l2], u.oneCell' = true from by
              intro u hu
              simp only [List.mem_cons, List.not_mem_nil, or_false] at hu
              rcases hu with rfl | rfl | rfl <;> rfl)
            have HC3 := Lib.hid (show es.length + 1 ≤ maxLen by unfold maxLen; omega)
            have HC4 := Lib.hid (show (es.length + 1) * 40 ≤ 140737488355328 by omega)
            have HC5 := Lib.hid (show w.heap.size + 1 ≤ w1.heap.size + 1 by omega)
            have hnb : (Value.slice pu es.length cu).ownBlock ≠ some b := fun e => by have h1 := hvb b rfl; have h2 := row_lt HOWN.out b e; omega
            have HK := Lib.hid (show ∀ (W w2 : World) (row : Option Nat), Old w1 W → W.grownBy w2 row → row ≠ some b → w2.cell? ⟨b, off, none⟩ = some (S l0) ∧ w2.cell? ⟨b, off + 1, none⟩ = some (S l1) ∧ w2.cell? ⟨b, off + 2, none⟩ = some (S l2) from fun W w2 row h1 h2 h3 => by
              have hbl : w2.heap[b]? = w1.heap[b]? := (h2.block b (by have := h1.size; omega) (fun e => h3 e.symm)).trans (h1.block b hb)
              exact ⟨(World.cell?_of_block (w := w1) (a := ⟨b, off, none⟩) hbl).trans hc0, (World.cell?_of_block (w := w1) (a := ⟨b, off + 1, none⟩) hbl).trans hc1, (World.cell?_of_block (w := w1) (a := ⟨b, off + 2, none⟩) hbl).trans hc2⟩)
            apply cut_here
            · intro key
              go_region_held3 (fun w' => w'.cell? ⟨b, off, none⟩ = some (S l0) ∧ w'.cell? ⟨b, off + 1, none⟩ = some (S l1) ∧ w'.cell? ⟨b, off + 2, none⟩ = some (S l2)) (first | go_keep | exact HK.out _ _ _ ((Old.alloc w1 _).trans (Old.drewN _ 1)) hgrow hnb) (first | (refine step_append_lies _ (by rfl) _ _ _ (by rfl) (w.heap.size + 1) 33 i0 _ 3 40 Tryz.underlying26 hi hz0 hz1 hz2 (by rfl) (by decide) (.slice pu es.length cu) es.length (ecells es) (by rfl) (hown1.alloc _).drew ⟨w1.heap.size, 0, none⟩ 1 1 [S l0, .bool false, S l2] (by rfl) (by rfl) (World.news_of_block (fr := (0, 0)) (t := 33) (cs := #[S l0, .bool false, S l2]) (heap_alloc_last w1 _)) HC2.out (by decide) HC3.out HC4.out (by simp; omega) _ rfl ?_); intro g cap w2 hown2 hgrow hat hlt2)
              all_goals (revert g cap w2 hown2 hgrow hat hlt2; exact key.out)
            intro g cap w2 hown2 hgrow _ _ _
            have hnw : (Value.slice pu es.length cu).ownBlock ≠ some w.heap.size := fun e => by have := row_from HOWN.out _ e; omega
            have hrd2 : Rr w2 w.heap.size (rlistS r).2 := Blk.grown (Blk.drewN (Blk.alloc hrd _) 1) hgrow hnw
            have ho2 : Old w w2 := by
              refine Keep.old (S := fun k => w.heap.size ≤ k) ?_ (fun k hk e => by omega)
              refine ((((Keep.of_old HO.out).trans (hkp.mono (fun k _ hk => by omega))).alloc _).drewN 1).grown hgrow (fun k hk => Or.inr ?_)
              have := row_from HOWN.out k hk
              omega
            have hown3 : EOwn (w.heap.size + 1) w2 (.slice (some ⟨g, 0, none⟩) (es.length + 1) cap) (es ++ [(l0, false, l2)]) := by
              show w2.ownsRow (w.heap.size + 1) 33 3 _ (es ++ [(l0, false, l2)]).length (ecells (es ++ [(l0, false, l2)]))
              rw [ecells_append, ecells_one, List.length_append]
              exact hown2
            have HO3 := Lib.hid hown3
            have HRD2 := Lib.hid hrd2
            have hm2 := Rr.len hrd2
            clear hown2 hgrow hown3 hrd2
            go_wp2
            go_roundw
            case rel => exact ⟨es ++ [(l0, false, l2)], (rlistS r).2, HO3.out, HRD2.out, Nat.le_trans HRR.out hrl, by have := HLS.out.2; rw [List.length_append]; simp only [List.length_singleton]; omega, (fun e he => by
              rcases List.mem_append.1 he with he | he
              · exact HSM.out e he
              · rw [List.mem_singleton] at he
                subst he
                exact ⟨by show l0.length ≤ _; omega, by show l2.length ≤ _; omega⟩), HST.out, ho2⟩
            case measure => rw [hm2, HRL.out]; exact HLS.out.1
          · have hq2 : (l1 == [102]) = false := by rw [beq_list]; exact decide_eq_false hk2
            have HNO := Lib.hid (HKD.out hk1 hk2)
            clear hk1 hk2 HKD HST
            go_wp2_with (first
              | ((with_reducible refine HL.out.mono ?_); rintro e w' ⟨rfl, rfl⟩)
              | (((with_reducible refine HLI.out.mono ?_); rintro e w1 ⟨v, rfl, hsl, hvb, hrd, hkp⟩; rw [H12.out] at hsl; obtain ⟨pv, cv, rfl⟩ := hsl.len; obtain ⟨b, off, rfl, hb, hc⟩ := hsl.at (by simp); have hc1 := hc 1 (by simp); simp at hc1)))
            go_ret2
            exact DecPost.no HNO.out (Keep.old ((Keep.of_old HO.out).trans hkp) (fun k hk e => by omega))
      · have HBAD := Lib.hid (HIN.out.bad hne (show (listS r).1.length ≠ 3 from by rw [HEQ.out]; exact h3))
        have h3' : ((((rlistS r).1.length : Nat) : Int) != 3) = true := by rw [bne_iff_ne]; omega
        clear hne h0
        go_wp2_with (first
          | ((with_reducible refine HL.out.mono ?_); rintro e w' ⟨rfl, rfl⟩)
          | (((with_reducible refine HLI.out.mono ?_); rintro e w1 ⟨v, rfl, hsl, hvb, hrd, hkp⟩; obtain ⟨pv, cv, rfl⟩ : (∃ pv cv, v = .slice pv (rlistS r).1.length cv) := (by obtain ⟨p, c, e⟩ := hsl.len; exact ⟨p, c, by rw [e, List.length_map]⟩))))
        go_ret2
        exact DecPost.no HBAD.out (Keep.old ((Keep.of_old HO.out).trans hkp) (fun k hk e => by omega))
end Go.Proofs.YtabcobadglgfkaaGreatDoor
