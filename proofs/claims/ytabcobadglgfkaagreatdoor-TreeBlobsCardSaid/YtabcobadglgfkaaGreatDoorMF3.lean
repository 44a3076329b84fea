/- Merged of: PathsW PathsX PathsP PathsY PathsZ PathsAA. -/
import Derived.Test.YtabcobadglgfkaaGreatDoorMF2
import Derived.Outline
import Derived.Deep.CutBlock
import Derived.Deep.DeepCutAuto
import Derived.BigQuiet
/- The document's files with one more. -/
namespace Go.Proofs.YtabcobadglgfkaaGreatDoor
open Go.RowKit

/-- The first file at a path, among the first k: none yet, or its place. -/
def First (fs : List M.Fi) (s : List UInt8) (k n : Nat) (sm : Bool) : Prop :=
  (sm = false ∧ n = fs.length ∧ ∀ j (hj : j < fs.length), j < k → (fs[j].1 == s) = false) ∨
  (sm = true ∧ n < k ∧ ∃ hn : n < fs.length, (fs[n].1 == s) = true ∧ ∀ j (hj : j < fs.length), j < n → (fs[j].1 == s) = false)
theorem Fl.one (w : World) (f : M.Fi) : Fl (w.alloc (.cells #[S f.1, S f.2] 54)) (.slice (some ⟨w.heap.size, 0, none⟩) 1 1) [f] := by
  refine ⟨_, 1, rfl, (fun h => by cases h), Nat.le_refl _, fun _ => ⟨w.heap.size, 0, rfl, by simp, fun j hj => ?_⟩⟩
  have hb := Blk.new w #[S f.1, S f.2] 54
  obtain rfl : j = 0 := by simpa using hj
  exact ⟨hb.cellN 0 rfl, hb.cellN 1 rfl⟩
theorem First.start (fs : List M.Fi) (s : List UInt8) : First fs s 0 fs.length false := Or.inl ⟨rfl, rfl, fun _ _ h => absurd h (Nat.not_lt_zero _)⟩
/-- Where the new file comes. -/
def Place (fs : List M.Fi) (f : M.Fi) (m : Nat) (sm : Bool) : Prop :=
  (sm = true ∧ m < fs.length ∧ M.put fs f = fs.take m ++ [f] ++ fs.drop (m + 1)) ∨ (sm = false ∧ m ≤ fs.length ∧ M.put fs f = fs.take m ++ [f] ++ fs.drop m)
theorem First.place {fs : List M.Fi} {f : M.Fi} {k n : Nat} (h : First fs f.1 k n true) : Place fs f n true := by
  rcases h with ⟨h, _⟩ | ⟨_, _, hn, he, hno⟩
  · cases h
  · refine Or.inl ⟨rfl, hn, ?_⟩
    unfold M.put M.has
    rw [if_pos (List.any_eq_true.2 ⟨_, List.getElem_mem hn, he⟩), repl_set fs f n hn he hno, List.set_eq_take_append_cons_drop, if_pos hn]
    simp
theorem First.none {fs : List M.Fi} {f : M.Fi} {n : Nat} (h : First fs f.1 fs.length n false) : n = fs.length ∧ (∀ g ∈ fs, (g.1 == f.1) = false) ∧ M.put fs f = M.ins fs f := by
  rcases h with ⟨_, h2, h3⟩ | ⟨h, _⟩
  · have hno : ∀ g ∈ fs, (g.1 == f.1) = false := fun g hg => by
      obtain ⟨j, hj, rfl⟩ := List.getElem_of_mem hg
      exact h3 j hj hj
    refine ⟨h2, hno, ?_⟩
    unfold M.put M.has
    rw [if_neg]
    intro hc
    obtain ⟨g, hg, hc⟩ := List.any_eq_true.1 hc
    rw [hno g hg] at hc
    cases hc
  · cases h
theorem First.found {fs : List M.Fi} {s : List UInt8} {k n : Nat} (h : First fs s k n true) : First fs s (k + 1) n true := by
  rcases h with ⟨h, _⟩ | ⟨h1, h2, h3⟩
  · cases h
  · exact Or.inr ⟨h1, by omega, h3⟩
theorem First.hit {fs : List M.Fi} {s : List UInt8} {k n : Nat} (h : First fs s k n false) (hk : k < fs.length) (he : (fs[k].1 == s) = true) : First fs s (k + 1) k true := by
  rcases h with ⟨_, _, h3⟩ | ⟨h, _⟩
  · exact Or.inr ⟨rfl, by omega, hk, he, h3⟩
  · cases h
theorem First.miss {fs : List M.Fi} {s : List UInt8} {k n : Nat} (h : First fs s k n false) (hk : k < fs.length) (he : (fs[k].1 == s) = false) : First fs s (k + 1) n false := by
  rcases h with ⟨_, h2, h3⟩ | ⟨h, _⟩
  · refine Or.inl ⟨rfl, h2, fun j hj hjk => ?_⟩
    by_cases hj2 : j = k
    · subst hj2; exact he
    · exact h3 j hj (by omega)
  · cases h

end Go.Proofs.YtabcobadglgfkaaGreatDoor

/- The document's files with others. -/
namespace Go.Proofs.YtabcobadglgfkaaGreatDoor
open Go.RowKit

end Go.Proofs.YtabcobadglgfkaaGreatDoor

/- The program's look at a list of files. -/
namespace Go.Proofs.YtabcobadglgfkaaGreatDoor
open Go.RowKit

theorem asc_iff : ∀ {fs : List M.Fi}, M.asc fs = true ↔ ∀ i (h : i + 1 < fs.length), M.bl fs[i].1 fs[i + 1].1 = true
  | [] => ⟨fun _ i h => by simp at h, fun _ => rfl⟩
  | [_] => ⟨fun _ i h => by simp at h, fun _ => rfl⟩
  | a :: b :: r => by
      rw [M.asc, Bool.and_eq_true, asc_iff (fs := b :: r)]
      constructor
      · rintro ⟨h1, h2⟩ i h
        cases i with
        | zero => exact h1
        | succ i => exact h2 i (by simpa using h)
      · intro h
        exact ⟨h 0 (by simp), fun i hi => h (i + 1) (by simpa using hi)⟩
theorem check_yes {fs : List M.Fi} (h0 : M.firstErr fs = 0) (h1 : fs.length ≤ 32) (h : ∀ j (hj : j < fs.length), (∀ (h0 : 0 < j), M.bl (fs[j - 1]'(by omega)).1 fs[j].1 = true) ∧ M.kin fs fs[j].1 = false) : M.check fs = 0 := by
  unfold M.check
  rw [if_neg (by rw [h0]; simp), if_neg (by omega), if_pos]
  refine ⟨asc_iff.2 fun i hi => ?_, List.any_eq_false.2 fun f hf => ?_⟩
  · have := (h (i + 1) hi).1 (by omega)
    simpa using this
  · obtain ⟨j, hj, rfl⟩ := List.getElem_of_mem hf
    rw [(h j hj).2]; simp
theorem check_no {fs : List M.Fi} (h0 : M.firstErr fs = 0) (h1 : fs.length ≤ 32) {j : Nat} (hj : j < fs.length) (h : (∃ h0 : 0 < j, M.bl (fs[j - 1]'(by omega)).1 fs[j].1 = false) ∨ M.kin fs fs[j].1 = true) : M.check fs = 16 := by
  unfold M.check
  rw [if_neg (by rw [h0]; simp), if_neg (by omega), if_neg]
  rintro ⟨h2, h3⟩
  rcases h with ⟨hp, h⟩ | h
  · have := asc_iff.1 h2 (j - 1) (by omega)
    have e : (fs[j - 1 + 1]'(by omega)) = fs[j] := by congr 1; omega
    rw [e, h] at this
    cases this
  · have := List.any_eq_false.1 h3 fs[j] (List.getElem_mem hj)
    exact this h
theorem check_big {fs : List M.Fi} (h0 : M.firstErr fs = 0) (h1 : 32 < fs.length) : M.check fs = 15 := by
  unfold M.check
  rw [if_neg (by rw [h0]; simp), if_pos h1]

set_option maxHeartbeats 4000000 in
set_option maxRecDepth 100000 in
theorem check_any (v : Value) (fs : List M.Fi) (w : World) (h : Fl w v fs) (hf : Alls fs) (hm : Mx w) :
    Calls Tryz.prog 29 #[v] w fun e w' => e = .returned (.int .i64 (M.check fs)) ∧ Old w w' := by
  have HM := Lib.hid hm
  have H := Lib.hid h
  have HF := Lib.hid hf
  have hlen := hf.1
  have G1 := Lib.hid (fun (f : M.Fi) (hf : Small f) w2 (hm : Mx w2) => checkFile_any f (by have := hf.1; unfold maxLen; omega) (by have := hf.2; unfold maxLen; omega) w2 hm)
  have G2 := Lib.hid (fun (s : List UInt8) (hs : s.length ≤ 1099511627776) w2 (h : Fl w2 v fs) => hasKin_any v fs s w2 h hf hs)
  obtain ⟨p, cap, rfl⟩ := h.len
  clear h hf hm
  go_enter Tryz.func29, Tryz.ntmps29
  go_wp2
  go_loopw [10] (fun i wr => ∃ k : Nat, k ≤ fs.length ∧ i = .int .i64 k ∧ Old w wr ∧ Hid (M.firstErr fs = M.firstErr (fs.drop k))) (fun i _ => fs.length - (intOf i).toNat)
  case atStart => exact ⟨0, Nat.zero_le _, rfl, Below.refl _ _, Lib.hid rfl⟩
  case round =>
    obtain ⟨k, hk, rfl, ho, hfe⟩ := hrel
    have HO := Lib.hid ho
    clear ho
    by_cases hlt : k < fs.length
    · obtain ⟨b, off, rfl, hb, hc⟩ := (H.out.old HO.out).at (by intro h; rw [h] at hlt; exact absurd hlt (Nat.not_lt_zero _))
      obtain ⟨hc0, hc1⟩ := hc k hlt
      have hsm := HF.out.2 _ (List.getElem_mem hlt)
      have hst := hfe.out
      rw [List.drop_eq_getElem_cons hlt, M.firstErr] at hst
      have HST := Lib.hid hst
      clear hc hst
      generalize fs[k] = f at *
      obtain ⟨w2, ew2, hb2, ho2⟩ : ∃ w2, wr.alloc (.cells #[S f.1, S f.2] 54) = w2 ∧ Blk w2 wr.heap.size #[S f.1, S f.2] 54 ∧ Old wr w2 := ⟨_, rfl, Blk.new wr _ _, Old.alloc wr _⟩
      have d0 := hb2.cellN 0 rfl
      have d1 := hb2.cellN 1 rfl
      have HO2 := Lib.hid (HO.out.trans ho2)
      have HG := Lib.hid (G1.out f hsm w2 (HM.out.old HO2.out))
      clear hsm hb2 ho2
      generalize M.chk1 f = e1 at *
      by_cases he : e1 = 0
      · subst he
        go_wp2_with ((with_reducible refine HG.out.mono ?_); rintro e w3 ⟨rfl, ho3⟩)
        go_roundw
        case rel =>
          have hst := HST.out
          rw [if_neg (by decide)] at hst
          exact ⟨k + 1, by omega, by go_num, HO2.out.trans ho3, Lib.hid hst⟩
        case measure => simp [intOf]; omega
      · go_wp2_with ((with_reducible refine HG.out.mono ?_); rintro e w3 ⟨rfl, ho3⟩)
        go_ret
        have hst := HST.out
        rw [if_pos he] at hst
        exact ⟨ret_int (by unfold M.check; rw [if_pos (by rw [hst]; exact he), hst]), HO2.out.trans ho3⟩
    · obtain rfl : k = fs.length := by omega
      have hf0 := hfe.out
      rw [List.drop_of_length_le (Nat.le_refl _), M.firstErr] at hf0
      have HF0 := Lib.hid hf0
      clear hf0 hfe
      by_cases hbig : 32 < fs.length
      · go_wp2
        go_ret
        exact ⟨ret_int (check_big HF0.out hbig).symm, HO.out⟩
      · go_wp2
        go_loopw [25] (fun i w1 => ∃ k : Nat, k ≤ fs.length ∧ i = .int .i64 k ∧ Old w w1 ∧ Hid (∀ j (hj : j < fs.length), j < k → (∀ (h0 : 0 < j), M.bl (fs[j - 1]'(by omega)).1 fs[j].1 = true) ∧ M.kin fs fs[j].1 = false)) (fun i _ => fs.length - (intOf i).toNat)
        case atStart => exact ⟨0, Nat.zero_le _, rfl, HO.out, Lib.hid (fun j _ h => absurd h (Nat.not_lt_zero _))⟩
        case round =>
          obtain ⟨k, hk2, rfl, ho2, hall⟩ := hrel
          have HO2 := Lib.hid ho2
          clear ho2 hlt hk
          by_cases hlt : k < fs.length
          · obtain ⟨b, off, rfl, hb, hc⟩ := (H.out.old HO2.out).at (by intro h; rw [h] at hlt; exact absurd hlt (Nat.not_lt_zero _))
            obtain ⟨hc0, hc1⟩ := hc k hlt
            have hsm := HF.out.2 _ (List.getElem_mem hlt)
            obtain ⟨w2, ew2, hb2, ho2⟩ : ∃ w2, wr.alloc (.cells #[S fs[k].1, S fs[k].2] 54) = w2 ∧ Blk w2 wr.heap.size #[S fs[k].1, S fs[k].2] 54 ∧ Old wr w2 := ⟨_, rfl, Blk.new wr _ _, Old.alloc wr _⟩
            have d0 := hb2.cellN 0 rfl
            have HO3 := Lib.hid (HO2.out.trans ho2)
            have HG := Lib.hid (G2.out fs[k].1 hsm.1 w2.drew ((H.out.old HO3.out).drewN 1))
            have HC := Lib.hid (show ∀ j (hj : j < fs.length), w2.cell? ⟨b, off + j * 2, none⟩ = some (S fs[j].1) from fun j hj => (ho2.cell (p := ⟨b, off + j * 2, none⟩) hb).trans (hc j hj).1)
            clear hsm hb2 ho2 hc
            have HGOOD := Lib.hid (show (∀ (h0 : 0 < k), M.bl (fs[k - 1]'(by omega)).1 fs[k].1 = true) → M.kin fs fs[k].1 = false → (∀ j (hj : j < fs.length), j < k + 1 → (∀ (h0 : 0 < j), M.bl (fs[j - 1]'(by omega)).1 fs[j].1 = true) ∧ M.kin fs fs[j].1 = false) from fun h1 h2 j hj hjk => by
              by_cases he : j = k
              · subst he; exact ⟨h1, h2⟩
              · exact hall.out j hj (by omega))
            by_cases hk0 : k = 0
            · have hg0 : decide (0 < k) = false := decide_eq_false (by omega)
              have HGOOD := Lib.hid (HGOOD.out (fun h => absurd h (by omega)))
              clear hk0
              have HBAD := Lib.hid (fun h => check_no HF0.out (by omega) hlt (Or.inr h))
              generalize fs[k].1 = x at *
              generalize M.kin fs x = kn at *
              go_upto_region 13 with (fail)
              refine wp_region_any (by kernel_rfl) ?_
              change wpAny _ _ _ _ _ _ _ (World.drew _)
              refine wpAny_take (i := 0) (v := ?_) rfl (by kernel_rfl) (by kernel_rfl) (by kernel_rfl) (fun _ _ _ h => h) (Or.inl ⟨by kernel_rfl, ?_⟩) ?_
              rotate_left
              · intro w'; go_simp; try with_reducible rfl
              refine wpAny_take (i := 1) (v := ?_) rfl (by kernel_rfl) (by kernel_rfl) (by kernel_rfl) (fun _ _ _ h => h) (Or.inl ⟨by kernel_rfl, ?_⟩) ?_
              rotate_left
              · intro w'; go_simp; try with_reducible rfl
              refine wpAny_take (i := 2) (v := ?_) rfl (by kernel_rfl) (by kernel_rfl) (by kernel_rfl) (fun _ _ _ h => h) (Or.inl ⟨by kernel_rfl, ?_⟩) ?_
              rotate_left
              · intro w'; go_simp; try with_reducible rfl
              refine wpAny_take (i := 3) (v := undef) rfl (by kernel_rfl) (by kernel_rfl) (by kernel_rfl) (fun _ _ _ h => h) (Or.inr ⟨by kernel_rfl, rfl⟩) ?_
              refine wpAny_take (i := 4) (v := undef) rfl (by kernel_rfl) (by kernel_rfl) (by kernel_rfl) (fun _ _ _ h => h) (Or.inr ⟨by kernel_rfl, rfl⟩) ?_
              refine wpAny_take (i := 5) (v := undef) rfl (by kernel_rfl) (by kernel_rfl) (by kernel_rfl) (fun _ _ _ h => h) (Or.inr ⟨by kernel_rfl, rfl⟩) ?_
              refine wpAny_take (i := 6) (v := undef) rfl (by kernel_rfl) (by kernel_rfl) (by kernel_rfl) (fun _ _ _ h => h) (Or.inr ⟨by kernel_rfl, rfl⟩) ?_
              refine wpAny_take (i := 7) (v := undef) rfl (by kernel_rfl) (by kernel_rfl) (by kernel_rfl) (fun _ _ _ h => h) (Or.inr ⟨by kernel_rfl, rfl⟩) ?_
              refine wpAny_take (i := 8) (v := undef) rfl (by kernel_rfl) (by kernel_rfl) (by kernel_rfl) (fun _ _ _ h => h) (Or.inr ⟨by kernel_rfl, rfl⟩) ?_
              refine wpAny_take (i := 9) (v := undef) rfl (by kernel_rfl) (by kernel_rfl) (by kernel_rfl) (fun _ _ _ h => h) (Or.inr ⟨by kernel_rfl, rfl⟩) ?_
              refine wpAny_take (i := 10) (v := undef) rfl (by kernel_rfl) (by kernel_rfl) (by kernel_rfl) (fun _ _ _ h => h) (Or.inr ⟨by kernel_rfl, rfl⟩) ?_
              refine wpAny_take (i := 11) (v := undef) rfl (by kernel_rfl) (by kernel_rfl) (by kernel_rfl) (fun _ _ _ h => h) (Or.inr ⟨by kernel_rfl, rfl⟩) ?_
              refine wpAny_take (i := 12) (v := ?_) rfl (by kernel_rfl) (by kernel_rfl) (by kernel_rfl) (fun _ _ _ h => h) (Or.inl ⟨by kernel_rfl, ?_⟩) ?_
              rotate_left
              · intro w'; go_simp; try with_reducible rfl
              refine wpAny_take (i := 13) (v := ?_) rfl (by kernel_rfl) (by kernel_rfl) (by kernel_rfl) (fun _ _ _ h => h) (Or.inl ⟨by kernel_rfl, ?_⟩) ?_
              rotate_left
              · intro w'; go_simp; try with_reducible rfl
              refine wpAny_take (i := 14) (v := ?_) rfl (by kernel_rfl) (by kernel_rfl) (by kernel_rfl) (fun _ _ _ h => h) (Or.inl ⟨by kernel_rfl, ?_⟩) ?_
              rotate_left
              · intro w'; go_simp; try with_reducible rfl
              refine wpAny_take (i := 15) (v := ?_) rfl (by kernel_rfl) (by kernel_rfl) (by kernel_rfl) (fun _ _ _ h => h) (Or.inl ⟨by kernel_rfl, ?_⟩) ?_
              rotate_left
              · intro w'; go_simp; try with_reducible rfl
              refine wpAny_ready (rs := [16]) (by kernel_rfl) (by simp) ?_
              refine AllReady.cons rfl (fun K hK => ?_) AllReady.nil
              go_simp
              refine hK _ _ ?_
              clear hK K
              refine wpAny_ready (rs := [17]) (by kernel_rfl) (by simp) ?_
              refine AllReady.cons rfl (fun K hK => ?_) AllReady.nil
              go_simp
              go_wp2_with ((with_reducible refine HG.out.mono ?_); rintro e w3 ⟨rfl, ho3⟩)
              refine wpAny_take (i := 18) (v := ?_) rfl (by kernel_rfl) (by kernel_rfl) (by kernel_rfl) (fun _ _ _ h => h) (Or.inl ⟨by kernel_rfl, ?_⟩) ?_
              rotate_left
              · intro w'; go_simp; try with_reducible rfl
              refine wpAny_done (by kernel_rfl) ?_ _
              cases kn with
              | true =>
                go_wp2
                go_ret
                exact ⟨ret_int (HBAD.out (by first | trivial | rfl)).symm, HO3.out.trans (((Old.drewN w2 1)).trans ho3)⟩
              | false =>
                go_wp2
                go_roundw
                case rel => exact ⟨k + 1, by omega, by go_num, HO3.out.trans (((Old.drewN w2 1)).trans ho3), Lib.hid (HGOOD.out (by first | trivial | rfl))⟩
                case measure => simp [intOf]; omega
            · have hg0 : decide (0 < k) = true := decide_eq_true (by omega)
              have hw1 : IntKind.i64.wrap ((k : Int) - 1) = (k : Int) - 1 := IntWalk.i64_in _ (by omega)
              have i1 : (1 : Int) ≤ (k : Int) := by omega
              have i2 : (k : Int) - 1 < (fs.length : Int) := by omega
              have i3 : ((k : Int) - 1).toNat = k - 1 := by omega
              have hp0 := HC.out (k - 1) (by omega)
              have HK0 := Lib.hid hk0
              clear hk0
              generalize hbl : M.bl (fs[k - 1]'(by omega)).1 fs[k].1 = r
              have HBL := Lib.hid hbl
              cases r with
              | false =>
                have HB := Lib.hid (check_no HF0.out (by omega) hlt (Or.inl ⟨by have := HK0.out; omega, HBL.out⟩))
                clear HG
                generalize fs[k].1 = x at *
                generalize (fs[k - 1]'(by omega)).1 = y at *
                have hb2 : Op.bytesLess y x = false := hbl
                clear hbl
                go_upto_region 13 with (fail)
                apply cut_here
                · intro key
                  refine wp_region_any (by kernel_rfl) ?_
                  change wpAny _ _ _ _ _ _ _ (World.drew _)
                  refine wpAny_take (i := 0) (v := ?_) rfl (by kernel_rfl) (by kernel_rfl) (by kernel_rfl) (fun _ _ _ h => h) (Or.inl ⟨by kernel_rfl, ?_⟩) ?_
                  rotate_left
                  · intro w'; go_simp; try with_reducible rfl
                  refine wpAny_take (i := 1) (v := ?_) rfl (by kernel_rfl) (by kernel_rfl) (by kernel_rfl) (fun _ _ _ h => h) (Or.inl ⟨by kernel_rfl, ?_⟩) ?_
                  rotate_left
                  · intro w'; go_simp; try with_reducible rfl
                  refine wpAny_take (i := 2) (v := ?_) rfl (by kernel_rfl) (by kernel_rfl) (by kernel_rfl) (fun _ _ _ h => h) (Or.inl ⟨by kernel_rfl, ?_⟩) ?_
                  rotate_left
                  · intro w'; go_simp; try with_reducible rfl
                  refine wpAny_take (i := 3) (v := ?_) rfl (by kernel_rfl) (by kernel_rfl) (by kernel_rfl) (fun _ _ _ h => h) (Or.inl ⟨by kernel_rfl, ?_⟩) ?_
                  rotate_left
                  · intro w'; go_simp; try with_reducible rfl
                  refine wpAny_take (i := 4) (v := ?_) rfl (by kernel_rfl) (by kernel_rfl) (by kernel_rfl) (fun _ _ _ h => h) (Or.inl ⟨by kernel_rfl, ?_⟩) ?_
                  rotate_left
                  · intro w'; go_simp; try with_reducible rfl
                  refine wpAny_take (i := 5) (v := ?_) rfl (by kernel_rfl) (by kernel_rfl) (by kernel_rfl) (fun _ _ _ h => h) (Or.inl ⟨by kernel_rfl, ?_⟩) ?_
                  rotate_left
                  · intro w'; go_simp; try with_reducible rfl
                  refine wpAny_take (i := 6) (v := ?_) rfl (by kernel_rfl) (by kernel_rfl) (by kernel_rfl) (fun _ _ _ h => h) (Or.inl ⟨by kernel_rfl, ?_⟩) ?_
                  rotate_left
                  · intro w'; go_simp; try with_reducible rfl
                  refine wpAny_take (i := 7) (v := ?_) rfl (by kernel_rfl) (by kernel_rfl) (by kernel_rfl) (fun _ _ _ h => h) (Or.inl ⟨by kernel_rfl, ?_⟩) ?_
                  rotate_left
                  · intro w'; go_simp; try with_reducible rfl
                  refine wpAny_take (i := 9) (v := ?_) rfl (by kernel_rfl) (by kernel_rfl) (by kernel_rfl) (fun _ _ _ h => h) (Or.inl ⟨by kernel_rfl, ?_⟩) ?_
                  rotate_left
                  · intro w'; go_simp; try with_reducible rfl
                  refine wpAny_ready (rs := [8, 10]) (by kernel_rfl) (by simp) ?_
                  refine AllReady.cons rfl (fun K hK => ?_) (AllReady.cons rfl (fun K hK => ?_) AllReady.nil)
                  · go_simp
                    refine hK _ _ ?_
                    clear hK K
                    refine wpAny_ready (rs := [10]) (by kernel_rfl) (by simp) ?_
                    refine AllReady.cons rfl (fun K hK => ?_) AllReady.nil
                    go_simp
                    refine hK _ _ ?_
                    clear hK K
                    refine wpAny_take (i := 11) (v := ?_) rfl (by kernel_rfl) (by kernel_rfl) (by kernel_rfl) (fun _ _ _ h => h) (Or.inl ⟨by kernel_rfl, ?_⟩) ?_
                    rotate_left
                    · intro w'; go_simp; try with_reducible rfl
                    refine wpAny_take (i := 12) (v := ?_) rfl (by kernel_rfl) (by kernel_rfl) (by kernel_rfl) (fun _ _ _ h => h) (Or.inl ⟨by kernel_rfl, ?_⟩) ?_
                    rotate_left
                    · intro w'; go_simp; try with_reducible rfl
                    refine wpAny_take (i := 13) (v := ?_) rfl (by kernel_rfl) (by kernel_rfl) (by kernel_rfl) (fun _ _ _ h => h) (Or.inl ⟨by kernel_rfl, ?_⟩) ?_
                    rotate_left
                    · intro w'; go_simp; try with_reducible rfl
                    refine wpAny_take (i := 14) (v := undef) rfl (by kernel_rfl) (by kernel_rfl) (by kernel_rfl) (fun _ _ _ h => h) (Or.inr ⟨by kernel_rfl, rfl⟩) ?_
                    refine wpAny_take (i := 15) (v := undef) rfl (by kernel_rfl) (by kernel_rfl) (by kernel_rfl) (fun _ _ _ h => h) (Or.inr ⟨by kernel_rfl, rfl⟩) ?_
                    refine wpAny_take (i := 16) (v := undef) rfl (by kernel_rfl) (by kernel_rfl) (by kernel_rfl) (fun _ _ _ h => h) (Or.inr ⟨by kernel_rfl, rfl⟩) ?_
                    refine wpAny_take (i := 17) (v := undef) rfl (by kernel_rfl) (by kernel_rfl) (by kernel_rfl) (fun _ _ _ h => h) (Or.inr ⟨by kernel_rfl, rfl⟩) ?_
                    refine wpAny_take (i := 18) (v := ?_) rfl (by kernel_rfl) (by kernel_rfl) (by kernel_rfl) (fun _ _ _ h => h) (Or.inl ⟨by kernel_rfl, ?_⟩) ?_
                    rotate_left
                    · intro w'; go_simp; try with_reducible rfl
                    refine wpAny_done (by kernel_rfl) ?_ _
                    go_simp
                    exact key.out
                  · go_simp
                    refine hK _ _ ?_
                    clear hK K
                    refine wpAny_ready (rs := [8]) (by kernel_rfl) (by simp) ?_
                    refine AllReady.cons rfl (fun K hK => ?_) AllReady.nil
                    go_simp
                    refine hK _ _ ?_
                    clear hK K
                    refine wpAny_take (i := 11) (v := ?_) rfl (by kernel_rfl) (by kernel_rfl) (by kernel_rfl) (fun _ _ _ h => h) (Or.inl ⟨by kernel_rfl, ?_⟩) ?_
                    rotate_left
                    · intro w'; go_simp; try with_reducible rfl
                    refine wpAny_take (i := 12) (v := ?_) rfl (by kernel_rfl) (by kernel_rfl) (by kernel_rfl) (fun _ _ _ h => h) (Or.inl ⟨by kernel_rfl, ?_⟩) ?_
                    rotate_left
                    · intro w'; go_simp; try with_reducible rfl
                    refine wpAny_take (i := 13) (v := ?_) rfl (by kernel_rfl) (by kernel_rfl) (by kernel_rfl) (fun _ _ _ h => h) (Or.inl ⟨by kernel_rfl, ?_⟩) ?_
                    rotate_left
                    · intro w'; go_simp; try with_reducible rfl
                    refine wpAny_take (i := 14) (v := undef) rfl (by kernel_rfl) (by kernel_rfl) (by kernel_rfl) (fun _ _ _ h => h) (Or.inr ⟨by kernel_rfl, rfl⟩) ?_
                    refine wpAny_take (i := 15) (v := undef) rfl (by kernel_rfl) (by kernel_rfl) (by kernel_rfl) (fun _ _ _ h => h) (Or.inr ⟨by kernel_rfl, rfl⟩) ?_
                    refine wpAny_take (i := 16) (v := undef) rfl (by kernel_rfl) (by kernel_rfl) (by kernel_rfl) (fun _ _ _ h => h) (Or.inr ⟨by kernel_rfl, rfl⟩) ?_
                    refine wpAny_take (i := 17) (v := undef) rfl (by kernel_rfl) (by kernel_rfl) (by kernel_rfl) (fun _ _ _ h => h) (Or.inr ⟨by kernel_rfl, rfl⟩) ?_
                    refine wpAny_take (i := 18) (v := ?_) rfl (by kernel_rfl) (by kernel_rfl) (by kernel_rfl) (fun _ _ _ h => h) (Or.inl ⟨by kernel_rfl, ?_⟩) ?_
                    rotate_left
                    · intro w'; go_simp; try with_reducible rfl
                    refine wpAny_done (by kernel_rfl) ?_ _
                    go_simp
                    exact key.out
                go_wp2
                go_ret
                exact ⟨ret_int HB.out.symm, HO3.out.trans (Old.drewN w2 1)⟩
              | true =>
                have HGOOD := Lib.hid (HGOOD.out (fun _ => HBL.out))
                have HBAD := Lib.hid (fun h => check_no HF0.out (by omega) hlt (Or.inr h))
                generalize fs[k].1 = x at *
                generalize (fs[k - 1]'(by omega)).1 = y at *
                generalize M.kin fs x = kn at *
                have hb2 : Op.bytesLess y x = true := hbl
                clear hbl
                go_upto_region 13 with (fail)
                apply cut_here
                · intro key
                  refine wp_region_any (by kernel_rfl) ?_
                  change wpAny _ _ _ _ _ _ _ (World.drew _)
                  refine wpAny_take (i := 0) (v := ?_) rfl (by kernel_rfl) (by kernel_rfl) (by kernel_rfl) (fun _ _ _ h => h) (Or.inl ⟨by kernel_rfl, ?_⟩) ?_
                  rotate_left
                  · intro w'; go_simp; try with_reducible rfl
                  refine wpAny_take (i := 1) (v := ?_) rfl (by kernel_rfl) (by kernel_rfl) (by kernel_rfl) (fun _ _ _ h => h) (Or.inl ⟨by kernel_rfl, ?_⟩) ?_
                  rotate_left
                  · intro w'; go_simp; try with_reducible rfl
                  refine wpAny_take (i := 2) (v := ?_) rfl (by kernel_rfl) (by kernel_rfl) (by kernel_rfl) (fun _ _ _ h => h) (Or.inl ⟨by kernel_rfl, ?_⟩) ?_
                  rotate_left
                  · intro w'; go_simp; try with_reducible rfl
                  refine wpAny_take (i := 3) (v := ?_) rfl (by kernel_rfl) (by kernel_rfl) (by kernel_rfl) (fun _ _ _ h => h) (Or.inl ⟨by kernel_rfl, ?_⟩) ?_
                  rotate_left
                  · intro w'; go_simp; try with_reducible rfl
                  refine wpAny_take (i := 4) (v := ?_) rfl (by kernel_rfl) (by kernel_rfl) (by kernel_rfl) (fun _ _ _ h => h) (Or.inl ⟨by kernel_rfl, ?_⟩) ?_
                  rotate_left
                  · intro w'; go_simp; try with_reducible rfl
                  refine wpAny_take (i := 5) (v := ?_) rfl (by kernel_rfl) (by kernel_rfl) (by kernel_rfl) (fun _ _ _ h => h) (Or.inl ⟨by kernel_rfl, ?_⟩) ?_
                  rotate_left
                  · intro w'; go_simp; try with_reducible rfl
                  refine wpAny_take (i := 6) (v := ?_) rfl (by kernel_rfl) (by kernel_rfl) (by kernel_rfl) (fun _ _ _ h => h) (Or.inl ⟨by kernel_rfl, ?_⟩) ?_
                  rotate_left
                  · intro w'; go_simp; try with_reducible rfl
                  refine wpAny_take (i := 7) (v := ?_) rfl (by kernel_rfl) (by kernel_rfl) (by kernel_rfl) (fun _ _ _ h => h) (Or.inl ⟨by kernel_rfl, ?_⟩) ?_
                  rotate_left
                  · intro w'; go_simp; try with_reducible rfl
                  refine wpAny_take (i := 9) (v := ?_) rfl (by kernel_rfl) (by kernel_rfl) (by kernel_rfl) (fun _ _ _ h => h) (Or.inl ⟨by kernel_rfl, ?_⟩) ?_
                  rotate_left
                  · intro w'; go_simp; try with_reducible rfl
                  refine wpAny_ready (rs := [8, 10]) (by kernel_rfl) (by simp) ?_
                  refine AllReady.cons rfl (fun K hK => ?_) (AllReady.cons rfl (fun K hK => ?_) AllReady.nil)
                  · go_simp
                    refine hK _ _ ?_
                    clear hK K
                    refine wpAny_ready (rs := [10]) (by kernel_rfl) (by simp) ?_
                    refine AllReady.cons rfl (fun K hK => ?_) AllReady.nil
                    go_simp
                    refine hK _ _ ?_
                    clear hK K
                    refine wpAny_take (i := 11) (v := ?_) rfl (by kernel_rfl) (by kernel_rfl) (by kernel_rfl) (fun _ _ _ h => h) (Or.inl ⟨by kernel_rfl, ?_⟩) ?_
                    rotate_left
                    · intro w'; go_simp; try with_reducible rfl
                    refine wpAny_take (i := 12) (v := ?_) rfl (by kernel_rfl) (by kernel_rfl) (by kernel_rfl) (fun _ _ _ h => h) (Or.inl ⟨by kernel_rfl, ?_⟩) ?_
                    rotate_left
                    · intro w'; go_simp; try with_reducible rfl
                    refine wpAny_take (i := 13) (v := ?_) rfl (by kernel_rfl) (by kernel_rfl) (by kernel_rfl) (fun _ _ _ h => h) (Or.inl ⟨by kernel_rfl, ?_⟩) ?_
                    rotate_left
                    · intro w'; go_simp; try with_reducible rfl
                    refine wpAny_take (i := 14) (v := ?_) rfl (by kernel_rfl) (by kernel_rfl) (by kernel_rfl) (fun _ _ _ h => h) (Or.inl ⟨by kernel_rfl, ?_⟩) ?_
                    rotate_left
                    · intro w'; go_simp; try with_reducible rfl
                    refine wpAny_take (i := 15) (v := ?_) rfl (by kernel_rfl) (by kernel_rfl) (by kernel_rfl) (fun _ _ _ h => h) (Or.inl ⟨by kernel_rfl, ?_⟩) ?_
                    rotate_left
                    · intro w'; go_simp; try with_reducible rfl
                    refine wpAny_ready (rs := [16]) (by kernel_rfl) (by simp) ?_
                    refine AllReady.cons rfl (fun K hK => ?_) AllReady.nil
                    go_simp
                    refine hK _ _ ?_
                    clear hK K
                    refine wpAny_ready (rs := [17]) (by kernel_rfl) (by simp) ?_
                    refine AllReady.cons rfl (fun K hK => ?_) AllReady.nil
                    go_simp
                    go_wp2_with ((with_reducible refine HG.out.mono ?_); rintro e w3 ⟨rfl, ho3⟩)
                    refine wpAny_take (i := 18) (v := ?_) rfl (by kernel_rfl) (by kernel_rfl) (by kernel_rfl) (fun _ _ _ h => h) (Or.inl ⟨by kernel_rfl, ?_⟩) ?_
                    rotate_left
                    · intro w'; go_simp; try with_reducible rfl
                    refine wpAny_done (by kernel_rfl) ?_ _
                    go_simp
                    revert w3; exact key.out
                  · go_simp
                    refine hK _ _ ?_
                    clear hK K
                    refine wpAny_ready (rs := [8]) (by kernel_rfl) (by simp) ?_
                    refine AllReady.cons rfl (fun K hK => ?_) AllReady.nil
                    go_simp
                    refine hK _ _ ?_
                    clear hK K
                    refine wpAny_take (i := 11) (v := ?_) rfl (by kernel_rfl) (by kernel_rfl) (by kernel_rfl) (fun _ _ _ h => h) (Or.inl ⟨by kernel_rfl, ?_⟩) ?_
                    rotate_left
                    · intro w'; go_simp; try with_reducible rfl
                    refine wpAny_take (i := 12) (v := ?_) rfl (by kernel_rfl) (by kernel_rfl) (by kernel_rfl) (fun _ _ _ h => h) (Or.inl ⟨by kernel_rfl, ?_⟩) ?_
                    rotate_left
                    · intro w'; go_simp; try with_reducible rfl
                    refine wpAny_take (i := 13) (v := ?_) rfl (by kernel_rfl) (by kernel_rfl) (by kernel_rfl) (fun _ _ _ h => h) (Or.inl ⟨by kernel_rfl, ?_⟩) ?_
                    rotate_left
                    · intro w'; go_simp; try with_reducible rfl
                    refine wpAny_take (i := 14) (v := ?_) rfl (by kernel_rfl) (by kernel_rfl) (by kernel_rfl) (fun _ _ _ h => h) (Or.inl ⟨by kernel_rfl, ?_⟩) ?_
                    rotate_left
                    · intro w'; go_simp; try with_reducible rfl
                    refine wpAny_take (i := 15) (v := ?_) rfl (by kernel_rfl) (by kernel_rfl) (by kernel_rfl) (fun _ _ _ h => h) (Or.inl ⟨by kernel_rfl, ?_⟩) ?_
                    rotate_left
                    · intro w'; go_simp; try with_reducible rfl
                    refine wpAny_ready (rs := [16]) (by kernel_rfl) (by simp) ?_
                    refine AllReady.cons rfl (fun K hK => ?_) AllReady.nil
                    go_simp
                    refine hK _ _ ?_
                    clear hK K
                    refine wpAny_ready (rs := [17]) (by kernel_rfl) (by simp) ?_
                    refine AllReady.cons rfl (fun K hK => ?_) AllReady.nil
                    go_simp
                    go_wp2_with ((with_reducible refine HG.out.mono ?_); rintro e w3 ⟨rfl, ho3⟩)
                    refine wpAny_take (i := 18) (v := ?_) rfl (by kernel_rfl) (by kernel_rfl) (by kernel_rfl) (fun _ _ _ h => h) (Or.inl ⟨by kernel_rfl, ?_⟩) ?_
                    rotate_left
                    · intro w'; go_simp; try with_reducible rfl
                    refine wpAny_done (by kernel_rfl) ?_ _
                    go_simp
                    revert w3; exact key.out
                intro w3 ho3
                cases kn with
                | true =>
                  go_wp2
                  go_ret
                  exact ⟨ret_int (HBAD.out (by first | trivial | rfl)).symm, HO3.out.trans (((Old.drewN w2 1)).trans ho3)⟩
                | false =>
                  go_wp2
                  go_roundw
                  case rel => exact ⟨k + 1, by omega, by go_num, HO3.out.trans (((Old.drewN w2 1)).trans ho3), Lib.hid (HGOOD.out (by first | trivial | rfl))⟩
                  case measure => simp [intOf]; omega
          · obtain rfl : k = fs.length := by omega
            go_wp2
            go_ret
            exact ⟨ret_int (check_yes HF0.out (by omega) (fun j hj => hall.out j hj hj)).symm, HO2.out⟩
end Go.Proofs.YtabcobadglgfkaaGreatDoor

/- The document's look at a list of files. -/
namespace Go.Proofs.YtabcobadglgfkaaGreatDoor
open Go.RowKit

theorem kin_no {fs : List M.Fi} (h : ∀ j (hj : j < fs.length) q (hq : q < fs.length), M.below fs[j].1 fs[q].1 = false) {j : Nat} (hj : j < fs.length) : M.kin fs fs[j].1 = false :=
  List.any_eq_false.2 fun g hg => by
    obtain ⟨q, hq, rfl⟩ := List.getElem_of_mem hg
    rw [h j hj q hq, h q hq j hj]; simp
theorem kin_yes {fs : List M.Fi} {j q : Nat} (hj : j < fs.length) (hq : q < fs.length) (h : M.below fs[j].1 fs[q].1 = true) : M.kin fs fs[j].1 = true :=
  List.any_eq_true.2 ⟨fs[q], List.getElem_mem hq, by rw [h]; rfl⟩

set_option maxHeartbeats 4000000 in
set_option maxRecDepth 100000 in
theorem rcheck_any (v : Value) (fs : List M.Fi) (w : World) (h : Fl w v fs) (hf : Alls fs) :
    Calls Tryz.prog 61 #[v] w fun e w' => e = .returned (.int .i64 (M.check fs)) ∧ ∃ n, w' = w.drewN n := by
  have H := Lib.hid h
  have HF := Lib.hid hf
  have hlen := hf.1
  have G1 := Lib.hid (fun (s : List UInt8) (hs : s.length ≤ 1099511627776) w2 => rpath_any s (by unfold maxLen; omega) w2)
  have G2 := Lib.hid (fun (s t : List UInt8) (hs : s.length ≤ 1099511627776) (ht : t.length ≤ 1099511627776) w2 => rbelow_any s t hs ht w2)
  obtain ⟨p, cap, rfl⟩ := h.len
  clear h hf
  go_enter Tryz.func61, Tryz.ntmps61
  go_wp2
  go_loopw [3] (fun i wr => ∃ k : Nat, k ≤ fs.length ∧ i = .int .i64 k ∧ wr = w ∧ Hid (M.firstErr fs = M.firstErr (fs.drop k))) (fun i _ => fs.length - (intOf i).toNat)
  case atStart => exact ⟨0, Nat.zero_le _, rfl, rfl, Lib.hid rfl⟩
  case round =>
    obtain ⟨k, hk, rfl, rfl, hfe⟩ := hrel
    by_cases hlt : k < fs.length
    · obtain ⟨b, off, rfl, hb, hc⟩ := H.out.at (by intro h; rw [h] at hlt; exact absurd hlt (Nat.not_lt_zero _))
      obtain ⟨hc0, hc1⟩ := hc k hlt
      have hsm := HF.out.2 _ (List.getElem_mem hlt)
      have hst := hfe.out
      rw [List.drop_eq_getElem_cons hlt, M.firstErr, M.chk1] at hst
      have HST := Lib.hid hst
      have HG := Lib.hid (G1.out fs[k].1 hsm.1)
      have hsd := hsm.2
      clear hc hst hsm hfe
      generalize fs[k].1 = x at *
      generalize fs[k].2 = d at *
      have hdl := size_mk d
      have hpr : M.path x = 0 ∨ M.path x = 13 := by unfold M.path; split <;> simp
      generalize M.path x = e1 at *
      rcases hpr with he | he
      · subst he
        by_cases hbig : d.length > 2048
        · have HE := Lib.hid (show M.check fs = 15 by
            have hst := HST.out
            simp [hbig] at hst
            unfold M.check
            rw [hst]; rfl)
          go_wp2_with ((with_reducible refine (HG.out _).mono ?_); rintro e w3 ⟨rfl, hw⟩; obtain rfl := hw.symm)
          go_ret
          exact ⟨ret_int HE.out.symm, 0, rfl⟩
        · have HE := Lib.hid (show M.firstErr fs = M.firstErr (fs.drop (k + 1)) by
            have hst := HST.out
            simpa [hbig] using hst)
          go_wp2_with ((with_reducible refine (HG.out _).mono ?_); rintro e w3 ⟨rfl, hw⟩; obtain rfl := hw.symm)
          go_roundw
          case rel => exact ⟨k + 1, by omega, by go_num, trivial, HE⟩
          case measure => simp [intOf]; omega
      · subst he
        have HE := Lib.hid (show M.check fs = 13 by
          have hst := HST.out
          simp at hst
          unfold M.check
          rw [hst]; rfl)
        go_wp2_with ((with_reducible refine (HG.out _).mono ?_); rintro e w3 ⟨rfl, hw⟩; obtain rfl := hw.symm)
        go_ret
        exact ⟨ret_int HE.out.symm, 0, rfl⟩
    · obtain rfl : k = fs.length := by omega
      have hf0 := hfe.out
      rw [List.drop_of_length_le (Nat.le_refl _), M.firstErr] at hf0
      have HF0 := Lib.hid hf0
      clear hf0 hfe
      by_cases hbig : 32 < fs.length
      · go_wp2
        go_ret
        exact ⟨ret_int (check_big HF0.out hbig).symm, 0, rfl⟩
      · go_wp2
        go_loopw [4] (fun i wx => ∃ k nd : Nat, k ≤ fs.length ∧ i = .int .i64 k ∧ wx = wr.drewN nd ∧ Hid (∀ j (hj : j < fs.length), j < k → (∀ (h0 : 0 < j), M.bl (fs[j - 1]'(by omega)).1 fs[j].1 = true) ∧ ∀ q (hq : q < fs.length), M.below fs[j].1 fs[q].1 = false)) (fun i _ => fs.length - (intOf i).toNat)
        case atStart => exact ⟨0, 0, Nat.zero_le _, rfl, rfl, Lib.hid (fun j _ h => absurd h (Nat.not_lt_zero _))⟩
        case round =>
          obtain ⟨k, nd, hk2, rfl, rfl, hall⟩ := hrel
          clear hlt hk
          by_cases hlt : k < fs.length
          · obtain ⟨b, off, rfl, hb, hc⟩ := H.out.at (by intro h; rw [h] at hlt; exact absurd hlt (Nat.not_lt_zero _))
            have HC := Lib.hid (show ∀ n j (hj : j < fs.length), (wr.drewN n).cell? ⟨b, off + j * 2, none⟩ = some (S fs[j].1) from fun n j hj => (hc j hj).1)
            clear hc hb
            have hbad : ((∃ h0 : 0 < k, M.bl (fs[k - 1]'(by omega)).1 fs[k].1 = false) → M.check fs = 16) := fun h => check_no HF0.out (by omega) hlt (Or.inl h)
            have HBAD := Lib.hid hbad
            have HKIN := Lib.hid (show ∀ q (hq : q < fs.length), M.below fs[k].1 fs[q].1 = true → M.check fs = 16 from fun q hq h => check_no HF0.out (by omega) hlt (Or.inr (kin_yes hlt hq h)))
            have HGOOD := Lib.hid (show (∀ (h0 : 0 < k), M.bl (fs[k - 1]'(by omega)).1 fs[k].1 = true) → (∀ q (hq : q < fs.length), M.below fs[k].1 fs[q].1 = false) → (∀ j (hj : j < fs.length), j < k + 1 → (∀ (h0 : 0 < j), M.bl (fs[j - 1]'(by omega)).1 fs[j].1 = true) ∧ ∀ q (hq : q < fs.length), M.below fs[j].1 fs[q].1 = false) from fun h1 h2 j hj hjk => by
              by_cases he : j = k
              · subst he; exact ⟨h1, h2⟩
              · exact hall.out j hj (by omega))
            have hxm := (HF.out.2 fs[k] (List.getElem_mem hlt)).1
            clear hbad
            go_upto_region 13 with (fail)
            go_cut [50] (fun c wx => ∃ (t : Bool) (nd2 : Nat), c = .bool t ∧ wx = wr.drewN nd2 ∧ Hid (t = true → M.check fs = 16) ∧ Hid (t = false → ∀ (h0 : 0 < k), M.bl (fs[k - 1]'(by omega)).1 fs[k].1 = true))
            case first =>
              have g0 := HC.out nd k hlt
              have HT0 := Lib.hid (show k = 0 → ∀ (h0 : 0 < k), M.bl (fs[k - 1]'(by omega)).1 fs[k].1 = true from fun h h0 => absurd h0 (by omega))
              by_cases hk0 : k = 0
              · have hg0 : decide (0 < k) = false := decide_eq_false (by omega)
                have HT := Lib.hid (HT0.out hk0)
                clear hk0
                generalize hwq : wr.drewN nd = wq at *
                have HWQ := Lib.hid hwq
                clear hwq
                go_quiet (fail)
                go_wp2
                go_meet
                case rel => exact ⟨false, _, rfl, by rw [← HWQ.out, drewN_add], Lib.hid (fun h => by cases h), Lib.hid (fun _ => HT.out)⟩
              · have hg0 : decide (0 < k) = true := decide_eq_true (by omega)
                have hw1 : IntKind.i64.wrap ((k : Int) - 1) = (k : Int) - 1 := IntWalk.i64_in _ (by omega)
                have i1 : (1 : Int) ≤ (k : Int) := by omega
                have i2 : (k : Int) - 1 < (fs.length : Int) := by omega
                have i3 : ((k : Int) - 1).toNat = k - 1 := by omega
                have hp0 := HC.out nd (k - 1) (by omega)
                have HK0 := Lib.hid (show 0 < k by omega)
                clear hk0
                generalize hbl : M.bl (fs[k - 1]'(by omega)).1 fs[k].1 = r
                have HBL := Lib.hid hbl
                have hb2 : Op.bytesLess (fs[k - 1]'(by omega)).1 fs[k].1 = r := hbl
                clear hbl
                generalize hwq : wr.drewN nd = wq at *
                have HWQ := Lib.hid hwq
                clear hwq
                cases r with
                | true =>
                  have HT := Lib.hid (show ∀ (h0 : 0 < k), M.bl (fs[k - 1]'(by omega)).1 fs[k].1 = true from fun _ => HBL.out)
                  go_quiet (fail)
                  go_wp2
                  go_meet
                  case rel => exact ⟨false, _, rfl, by rw [← HWQ.out, drewN_add], Lib.hid (fun h => by cases h), Lib.hid (fun _ => HT.out)⟩
                | false =>
                  have HT := Lib.hid (HBAD.out ⟨HK0.out, HBL.out⟩)
                  go_quiet (fail)
                  go_wp2
                  go_meet
                  case rel => exact ⟨true, _, rfl, by rw [← HWQ.out, drewN_add], Lib.hid (fun _ => HT.out), Lib.hid (fun h => by cases h)⟩
            case rest =>
              obtain ⟨t, nd2, rfl, rfl, ht1, ht2⟩ := hcut
              cases t with
              | true =>
                have HT := Lib.hid (ht1.out rfl)
                clear ht1 ht2
                go_wp2
                go_ret
                exact ⟨ret_int HT.out.symm, nd2, rfl⟩
              | false =>
                have HT := Lib.hid (HGOOD.out (ht2.out rfl))
                clear ht1 ht2 HGOOD HBAD
                go_wp2
                go_loopw [5] (fun i wx => ∃ q nd3 : Nat, q ≤ fs.length ∧ i = .int .i64 q ∧ wx = wr.drewN nd3 ∧ Hid (∀ j (hj : j < fs.length), j < q → M.below fs[k].1 fs[j].1 = false)) (fun i _ => fs.length - (intOf i).toNat)
                case atStart => exact ⟨0, nd2, Nat.zero_le _, rfl, rfl, Lib.hid (fun j _ h => absurd h (Nat.not_lt_zero _))⟩
                case round =>
                  obtain ⟨q, nd3, hq, rfl, rfl, hbelow⟩ := hrel
                  by_cases hqlt : q < fs.length
                  · have g0 := HC.out nd3 k hlt
                    have g1 := HC.out nd3 q hqlt
                    have HK := Lib.hid (HKIN.out q hqlt)
                    have HNX := Lib.hid (show M.below fs[k].1 fs[q].1 = false → ∀ j (hj : j < fs.length), j < q + 1 → M.below fs[k].1 fs[j].1 = false from fun h j hj hjq => by
                      by_cases he : j = q
                      · subst he; exact h
                      · exact hbelow.out j hj (by omega))
                    have HB := Lib.hid (G2.out fs[k].1 fs[q].1 hxm (HF.out.2 fs[q] (List.getElem_mem hqlt)).1)
                    clear hbelow
                    generalize M.below fs[k].1 fs[q].1 = r at *
                    generalize hwq : wr.drewN nd3 = wq at *
                    have HWQ := Lib.hid hwq
                    clear hwq
                    cases r with
                    | true =>
                      have HK2 := Lib.hid (HK.out (by first | trivial | rfl))
                      clear HK HNX
                      go_wp2
                      go_quiet (first | (go_at_call 77; with_reducible refine Calls.quiet_of_same (HB.out _)))
                      go_wp2
                      go_ret
                      exact ⟨ret_int HK2.out.symm, _, by rw [← HWQ.out, drewN_add]⟩
                    | false =>
                      have HN2 := Lib.hid (HNX.out (by first | trivial | rfl))
                      clear HK HNX
                      go_wp2
                      go_quiet (first | (go_at_call 77; with_reducible refine Calls.quiet_of_same (HB.out _)))
                      go_wp2
                      go_roundw
                      case rel => exact ⟨q + 1, _, by omega, by go_num, by rw [← HWQ.out, drewN_add], HN2⟩
                      case measure => simp [intOf]; omega
                  · obtain rfl : q = fs.length := by omega
                    have HT2 := Lib.hid (HT.out (fun j hj => hbelow.out j hj hj))
                    clear HT hbelow
                    go_wp2
                    go_roundw
                    case rel => exact ⟨k + 1, nd3, by omega, by go_num, rfl, HT2⟩
                    case measure => simp [intOf]; omega
          · obtain rfl : k = fs.length := by omega
            go_wp2
            go_ret
            exact ⟨ret_int (check_yes HF0.out (by omega) (fun j hj => ⟨(hall.out j hj hj).1, kin_no (fun j hj q hq => (hall.out j hj hj).2 q hq) hj⟩)).symm, nd, rfl⟩
end Go.Proofs.YtabcobadglgfkaaGreatDoor

/- The law's own words: are files few; does the chapter's example hold. -/
namespace Go.Proofs.YtabcobadglgfkaaGreatDoor
open Go.RowKit

def M.few (fs : List M.Fi) : Bool := decide (fs.length ≤ 100) && fs.all (fun f => decide (f.1.length ≤ 500) && decide (f.2.length ≤ 5000))
theorem few_alls {fs : List M.Fi} (h : M.few fs = true) : fs.length ≤ 100 ∧ (∀ f ∈ fs, f.1.length ≤ 500 ∧ f.2.length ≤ 5000) ∧ Alls fs := by
  unfold M.few at h
  rw [Bool.and_eq_true, decide_eq_true_eq] at h
  have h2 : ∀ f ∈ fs, f.1.length ≤ 500 ∧ f.2.length ≤ 5000 := fun f hf => by
    have := List.all_eq_true.1 h.2 f hf
    simpa using this
  exact ⟨h.1, h2, by omega, fun f hf => ⟨by have := h2 f hf; omega, by have := h2 f hf; omega⟩⟩

theorem ex_with : M.withF [([97, 47, 98], [])] ([97], []) = ([], 16) := by decide +kernel
theorem ex_under : M.under [([97, 47, 98], []), ([97, 47, 99], []), ([100], [])] [97] = [([98], []), ([99], [])] := by decide +kernel
theorem ex_path1 : M.path [97, 47, 98] = 0 := by decide +kernel
theorem ex_path2 : M.path [97, 47, 47, 98] = 13 := by decide +kernel
theorem ex_path3 : M.path [47, 97] = 13 := by decide +kernel
theorem ex_path4 : M.path [97, 47, 46, 46] = 13 := by decide +kernel
theorem Fl.block {w : World} {b n : Nat} {fs : List M.Fi} (hb : Blk w b (cells fs).toArray 54) (hn : fs.length = n) : Fl w (.slice (some ⟨b, 0, none⟩) n n) fs := by
  refine ⟨_, n, by rw [hn], (fun h => by cases h), by omega, fun _ => ⟨b, 0, rfl, hb.lt, fun j hj => ?_⟩⟩
  obtain ⟨e0, e1⟩ := cells_at fs j hj
  rw [Nat.zero_add]
  exact ⟨hb.cellN _ (by rw [List.getElem?_toArray, e0]), hb.cellN _ (by rw [List.getElem?_toArray, e1])⟩

theorem small_abc (p d : List UInt8) (h : p.length ≤ 10) (h2 : d.length ≤ 10) : Small (p, d) := ⟨by simp only; omega, by simp only; omega⟩
end Go.Proofs.YtabcobadglgfkaaGreatDoor

/- What the laws on files lean on beside the walks: lengths, a list held against itself, a list of one's own. -/
namespace Go.Proofs.YtabcobadglgfkaaGreatDoor
open Go.RowKit

theorem same_self (v u : Value) (fs : List M.Fi) (w : World) (h : Fl w v fs) (h2 : Fl w u fs) (hl : fs.length ≤ 1099511627776) :
    Calls Tryz.prog 18 #[v, u] w fun e w' => e = .returned (.bool true) ∧ ∃ n, w' = w.drewN n := by
  have := same_any v u fs fs w h h2 (by unfold maxLen; omega) (by unfold maxLen; omega)
  rwa [decide_eq_true rfl] at this
theorem without_len (fs : List M.Fi) (s : List UInt8) : (M.without fs s).length ≤ fs.length := List.length_filter_le _ _
theorem under_len (fs : List M.Fi) (s : List UInt8) : (M.under fs s).length ≤ fs.length := by
  unfold M.under
  rw [List.length_map]
  exact List.length_filter_le _ _
theorem into_len (fs : List M.Fi) (s : List UInt8) : (M.into fs s).1.length ≤ fs.length := by
  unfold M.into
  split
  · simp
  · split
    · simp
    · simp
theorem withF_len (fs : List M.Fi) (f : M.Fi) : (M.withF fs f).1.length ≤ 32 := by
  unfold M.withF
  split
  · simp
  · split
    · simp
    · split
      · simp
      · simp only; omega
theorem union_len : ∀ (more fs : List M.Fi), fs.length ≤ 1000 → (M.union fs more).1.length ≤ 1000
  | [], fs, h => h
  | f :: r, fs, h => by
      rw [M.union]
      split
      · simp
      · exact union_len r _ (Nat.le_trans (withF_len fs f) (by decide))
/-- An empty list that is not nil. -/
theorem Own.void (w : World) : Own w.heap.size (w.alloc (.cells #[] 54)) (.slice (some ⟨w.heap.size, 0, none⟩) 0 0) [] := by
  have := World.ownsRow_made (e := 54) (size := 2) w #[] 0 (base := w.heap.size) (Nat.le_refl _) (Nat.zero_le _) (by simp)
  have h : World.ownsRow (w.alloc (.cells #[] 54)) w.heap.size 54 2 (.slice (some ⟨w.heap.size, 0, none⟩) 0 0) 0 [] := by simpa using this
  exact h
/-- How many files stand at a path. -/
def M.at (fs : List M.Fi) (s : List UInt8) : Nat := fs.countP fun f => f.1 == s
theorem at_len (fs : List M.Fi) (s : List UInt8) : M.at fs s ≤ fs.length := List.countP_le_length
theorem at_step {fs : List M.Fi} {s : List UInt8} {k : Nat} (h : k < fs.length) : M.at (fs.take (k + 1)) s = M.at (fs.take k) s + if fs[k].1 == s then 1 else 0 := by
  unfold M.at
  rw [List.take_add_one, List.getElem?_eq_getElem h, List.countP_append]
  simp [List.countP_cons]
theorem apart_len : ∀ (fs : List M.Fi) (s : List UInt8), (M.without fs s).length + (M.under fs s).length + M.at fs s = fs.length
  | [], _ => rfl
  | f :: r, s => by
      have ih := apart_len r s
      unfold M.without M.under M.at at ih ⊢
      rw [List.length_map] at ih ⊢
      simp only [List.filter_cons, List.countP_cons, List.length_cons, Bool.not_or] at ih ⊢
      by_cases h1 : f.1 = s
      · have h2 : M.below f.1 s = false := by rw [h1]; exact M.below_self s
        rw [h2]
        simp [h1]
        omega
      · cases h2 : M.below f.1 s <;> simp [h1] <;> omega
end Go.Proofs.YtabcobadglgfkaaGreatDoor
