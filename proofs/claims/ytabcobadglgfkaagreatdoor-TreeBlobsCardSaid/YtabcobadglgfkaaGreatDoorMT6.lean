/- Merged of: LiftE TreeRA TreeRB TreeRC TreeRD. -/
import Derived.Test.YtabcobadglgfkaaGreatDoorMT1
import Derived.Test.YtabcobadglgfkaaGreatDoorMT5
import Derived.Test.YtabcobadglgfkaaGreatDoorMF3
import Derived.Test.YtabcobadglgfkaaGreatDoorMP2
import Derived.Shelf.SlSorted.Search
import Derived.BigQuiet
/- Entries that came in. -/
namespace Go.Proofs.YtabcobadglgfkaaGreatDoor
open Go.ChangeShapes Go.WideShapes Go.ChangeAt Go.RowKit

section
variable {H : Type} {enc : TypeId × Value → H}

theorem entry_fields : ∃ f0 f1 f2 : Field, Tryz.prog.underlying 33 = some (.struct #[f0, f1, f2]) ∧ f0.offset = 0 ∧ f1.offset = 1 ∧ f2.offset = 2 ∧ f0.type = 9 ∧ f1.type = 4 ∧ f2.type = 9 := ⟨_, _, _, Tryz.underlying33, rfl, rfl, rfl, rfl, rfl, rfl⟩
theorem entry_cells : Tryz.prog.cellsOf 33 = 3 := by kernel_rfl
theorem bool_cells : Tryz.prog.cellsOf 4 = 1 := by kernel_rfl

set_option maxRecDepth 100000 in
/-- A list of entries that came in. -/
theorem open_entries {t : TypeId} {W : World} {base : Nat} {v : Value} {d : DataW H} {p : List MemPlace} (ht : Tryz.prog.underlying t = some (.slice 33)) (hval : Value.okWide Tryz.prog W .any base t v)
    (h : DataW.Trod enc Tryz.prog W 0 (fun _ => true) true t v d p) :
    ∃ es : List M.En, El W v es ∧ es.length ≤ maxLen ∧ ∀ e, e ∈ es → e.1.length ≤ maxLen ∧ e.2.2.length ≤ maxLen := by
  obtain ⟨fuel, hf⟩ := h
  obtain ⟨a, len, cap, rfl⟩ := okWide_slice ht hval
  obtain ⟨f0, f1, f2, he, o0, o1, o2, t0, t1, t2⟩ := entry_fields
  rcases Deep.open_slice ht hf with ⟨hc, _⟩ | ⟨a', len', cap', m, n, D, Pl, hc, _, hlc, hmax, hm, _, hall⟩
  · have hv : (Value.slice a len cap) = .slice none 0 0 := by simpa [Value.cells] using hc
    rw [hv]
    exact ⟨[], El.nil _, Nat.zero_le _, fun s hs => by cases hs⟩
  · have hv : (Value.slice a len cap) = .slice (some a') len' cap' := by simpa [Value.cells] using hc
    rw [hv]
    rw [if_pos rfl] at hm
    have each : ∀ i, i < len' → ∃ q : M.En, W.cell? (a'.add (i * 3)) = some (S q.1) ∧ W.cell? (a'.add (i * 3 + 1)) = some (.bool q.2.1) ∧ W.cell? (a'.add (i * 3 + 2)) = some (S q.2.2) ∧ q.1.length ≤ maxLen ∧ q.2.2.length ≤ maxLen := by
      intro i hi
      obtain ⟨cs', h1, h2⟩ := hall i (by omega)
      rw [entry_cells] at h1
      obtain ⟨_, hlen, hcell⟩ := World.cells?_some h1
      obtain ⟨xs, k, hk, hxy, _, hxl, hff⟩ := DataW.trod_struct he h2
      match xs, hxl, cs', hlen with
      | [y0, y1, y2], _, [v0, v1, v2], _ =>
        have g0 := hff 0 f0 rfl
        have g1 := hff 1 f1 rfl
        have g2 := hff 2 f2 rfl
        rw [t0, o0, string_cells] at g0
        rw [t1, o1, bool_cells] at g1
        rw [t2, o2, string_cells] at g2
        have e0 := hcell 0 (by omega)
        have e1 := hcell 1 (by omega)
        have e2 := hcell 2 (by omega)
        rw [Deep.add_add] at e0 e1 e2
        simp at g0 g1 g2
        obtain ⟨s0, x0, _, z0⟩ := DataW.trod_string Tryz.underlying9 g0
        obtain ⟨b1, x1, _⟩ := DataW.trod_bool Tryz.underlying4 g1
        obtain ⟨s2, x2, _, z2⟩ := DataW.trod_string Tryz.underlying9 g2
        simp only [List.cons.injEq, and_true] at x0 x1 x2
        subst x0; subst x1; subst x2
        exact ⟨(s0.data.toList, b1, s2.data.toList), by simpa using e0, by simpa using e1, by simpa using e2, by simpa using z0, by simpa using z2⟩
    obtain ⟨q, hq⟩ := Deep.choose_lt each
    have hl : ((List.range len').map q).length = len' := by simp
    refine ⟨(List.range len').map q, ⟨some a', cap', by rw [hl], (fun h => by cases h), by rw [hl]; exact hlc, fun hne => ?_⟩, by rw [hl]; omega, fun f hfm => ?_⟩
    · have hpos : 0 < len' := by
        rcases Nat.eq_zero_or_pos len' with h | h
        · rw [h] at hne; exact absurd rfl hne
        · exact h
      have h0 := (hq 0 hpos).1
      have ha : a'.add (0 * 3) = a' := by simp [Addr.add]
      rw [ha] at h0
      have hsp : a'.spot = none := by
        cases hs : a'.spot with
        | none => rfl
        | some x =>
          unfold World.cell? at h0
          split at h0
          · rw [if_pos (by rw [hs]; rfl)] at h0; cases h0
          · cases h0
      obtain ⟨b, off, sp⟩ := a'
      simp only at hsp
      subst hsp
      refine ⟨b, off, rfl, World.block_lt_of_cell? _ _ h0, fun j hj => ?_⟩
      rw [hl] at hj
      obtain ⟨c0, c1, c2, _⟩ := hq j hj
      rw [Addr.add_lit] at c0 c1 c2
      simp only [List.getElem_map, List.getElem_range]
      exact ⟨c0, by rw [Nat.add_assoc]; exact c1, by rw [Nat.add_assoc]; exact c2⟩
    · obtain ⟨i, hi, rfl⟩ := List.mem_map.1 hfm
      exact (hq i (List.mem_range.1 hi)).2.2.2
end
end Go.Proofs.YtabcobadglgfkaaGreatDoor

/- The document's first part of a path; what the laws ask of lists. -/
namespace Go.Proofs.YtabcobadglgfkaaGreatDoor
open Go.RowKit

theorem extract_to (l : List UInt8) (k : Nat) : (⟨⟨l⟩⟩ : ByteArray).extract 0 k = ⟨⟨l.take k⟩⟩ := ba_eq (by rw [Lib.extract_data]; simp)
set_option maxHeartbeats 1000000 in
set_option maxRecDepth 100000 in
theorem head_any (s : List UInt8) (hl : s.length ≤ maxLen) (w : World) :
    Calls Tryz.prog 35 #[S s] w fun e w' => e = .returned (.tuple #[S (M.head1 s), .bool (decide (47 ∈ s))]) ∧ w' = w := by
  unfold maxLen at hl
  have hsz := size_mk s
  go_enter Tryz.func35, Tryz.ntmps35
  go_wp2
  go_loopw [4] (fun i wr => ∃ k : Nat, k ≤ s.length ∧ i = .int .i64 k ∧ wr = w ∧ Hid (∀ c ∈ s.take k, c ≠ 47)) (fun i _ => s.length - (intOf i).toNat)
  case atStart => exact ⟨0, Nat.zero_le _, rfl, rfl, Lib.hid (fun c h => by cases h)⟩
  case round =>
    obtain ⟨k, hk, rfl, rfl, hall⟩ := hrel
    by_cases hlt : k < s.length
    · obtain ⟨c, hgt⟩ : ∃ c, ∀ h, (⟨⟨s⟩⟩ : ByteArray)[k]'h = c := ⟨s[k], fun _ => rfl⟩
      have hc : s[k] = c := hgt hlt
      have hcl := c.toNat_lt
      have hex := extract_to s k
      have hle : (k : Int) ≤ (s.length : Int) := by omega
      by_cases h47 : c.toNat = 47
      · have hc47 : s[k] = 47 := hc.trans (UInt8.toNat_inj.1 h47)
        have HX := Lib.hid (show M.head1 s = s.take k ∧ decide (47 ∈ s) = true from by
          refine ⟨?_, decide_eq_true (hc47 ▸ List.getElem_mem hlt)⟩
          have e : s = s.take k ++ 47 :: s.drop (k + 1) := by
            conv => lhs; rw [← List.take_append_drop k s, List.drop_eq_getElem_cons hlt, hc47]
          conv => lhs; rw [e]
          exact M.head1_at _ hall.out)
        clear hc hc47 hall
        go_wp2
        go_ret2
        exact ⟨by rw [HX.out.1, HX.out.2] <;> rfl, rfl⟩
      · have HN := Lib.hid (show ∀ d ∈ s.take (k + 1), d ≠ 47 from fun d hd => by
          rw [List.take_succ_eq_append_getElem hlt, List.mem_append, List.mem_singleton] at hd
          rcases hd with hd | rfl
          · exact hall.out d hd
          · rw [hc]; intro e; exact h47 (by rw [e]; rfl))
        have hne : ¬ ((c.toNat : Int) = 47) := by omega
        clear hc hall
        go_wp2
        go_roundw
        case rel => exact ⟨k + 1, by omega, by go_num, trivial, HN⟩
        case measure => simp [intOf]; omega
    · obtain rfl : k = s.length := by omega
      have HX := Lib.hid (show M.head1 s = s ∧ decide (47 ∈ s) = false from by
        have h := hall.out
        rw [List.take_length] at h
        exact ⟨M.head1_all h, decide_eq_false fun hm => h 47 hm rfl⟩)
      clear hall
      go_wp2
      go_ret2
      exact ⟨by rw [HX.out.1, HX.out.2] <;> rfl, rfl⟩

/-- Not too many files, and not too great. -/
def fewT (fs : List M.Fi) : Bool := decide (fs.length ≤ 40) && fs.all fun f => decide (f.1.length ≤ 60) && decide (f.2.length ≤ 3000)
theorem fewT_all {fs : List M.Fi} (h : fewT fs = true) : fs.length ≤ 40 ∧ ∀ f ∈ fs, f.1.length ≤ 60 ∧ f.2.length ≤ 3000 := by
  unfold fewT at h
  rw [Bool.and_eq_true, decide_eq_true_eq] at h
  exact ⟨h.1, fun f hf => by have := List.all_eq_true.1 h.2 f hf; simpa using this⟩
theorem fewT_tame {fs : List M.Fi} (h : fewT fs = true) : Tame fs := by
  obtain ⟨h1, h2⟩ := fewT_all h
  exact ⟨by omega, fun f hf => by have := h2 f hf; omega⟩
set_option maxHeartbeats 1000000 in
set_option maxRecDepth 100000 in
theorem fewT_any (v : Value) (fs : List M.Fi) (w : World) (h : Fl w v fs) (hl : fs.length ≤ maxLen) :
    Calls Tryz.prog 11 #[v] w fun e w' => e = .returned (.bool (fewT fs)) ∧ w = w' := by
  unfold maxLen at hl
  have H := Lib.hid h
  obtain ⟨p, cap, rfl⟩ := h.len
  clear h
  by_cases hbig : 40 < fs.length
  · go_enter Tryz.func11, Tryz.ntmps11
    go_wp2
    go_ret
    exact ⟨ret_bool (by unfold fewT; rw [decide_eq_false (by omega), Bool.false_and]), rfl⟩
  · go_enter Tryz.func11, Tryz.ntmps11
    go_wp2
    go_loopw [3] (fun i wr => ∃ k : Nat, k ≤ fs.length ∧ i = .int .i64 k ∧ wr = w ∧ Hid (∀ j (hj : j < fs.length), j < k → fs[j].1.length ≤ 60 ∧ fs[j].2.length ≤ 3000)) (fun i _ => fs.length - (intOf i).toNat)
    case atStart => exact ⟨0, Nat.zero_le _, rfl, rfl, Lib.hid (fun j _ h => absurd h (Nat.not_lt_zero _))⟩
    case round =>
      obtain ⟨k, hk, rfl, rfl, hall⟩ := hrel
      by_cases hlt : k < fs.length
      · obtain ⟨b, off, rfl, hb, hc⟩ := H.out.at (by intro h; rw [h] at hlt; exact absurd hlt (Nat.not_lt_zero _))
        obtain ⟨hc0, hc1⟩ := hc k hlt
        have HNO := Lib.hid (show (60 < fs[k].1.length ∨ 3000 < fs[k].2.length) → fewT fs = false from fun h => by
          cases hf : fewT fs with
          | false => rfl
          | true =>
            have := (fewT_all hf).2 _ (List.getElem_mem hlt)
            omega)
        have HYES := Lib.hid (show fs[k].1.length ≤ 60 ∧ fs[k].2.length ≤ 3000 → ∀ j (hj : j < fs.length), j < k + 1 → fs[j].1.length ≤ 60 ∧ fs[j].2.length ≤ 3000 from fun h j hj hjk => by
          by_cases he : j = k
          · subst he; exact h
          · exact hall.out j hj (by omega))
        clear hc hb hall
        generalize fs[k].1 = x at *
        generalize fs[k].2 = d at *
        have hx := size_mk x
        have hd := size_mk d
        by_cases h1 : 60 < x.length
        · have HE := Lib.hid (HNO.out (Or.inl h1))
          clear HNO HYES
          go_wp2
          go_ret
          exact ⟨ret_bool HE.out.symm, rfl⟩
        · by_cases h2 : 3000 < d.length
          · have HE := Lib.hid (HNO.out (Or.inr h2))
            clear HNO HYES
            go_wp2
            go_ret
            exact ⟨ret_bool HE.out.symm, rfl⟩
          · have HE := Lib.hid (HYES.out ⟨by omega, by omega⟩)
            clear HNO HYES
            go_wp2
            go_roundw
            case rel => exact ⟨k + 1, by omega, by go_num, trivial, HE⟩
            case measure => simp [intOf]; omega
      · obtain rfl : k = fs.length := by omega
        go_wp2
        go_ret
        exact ⟨ret_bool (by
          unfold fewT
          rw [decide_eq_true (by omega), Bool.true_and, Eq.comm, List.all_eq_true]
          intro f hf
          obtain ⟨j, hj, rfl⟩ := List.getElem_of_mem hf
          have := hall.out j hj hj
          simp [this]), rfl⟩

theorem guard_entry : Tryz.prog.eqGuardType Tryz.prog.depth 33 = false := by kernel_rfl
theorem neq_entry (e : M.En) (w : World) : Sem.run Tryz.prog (binOp .neq 33 (ev e) (ev e)) w = .ok (.bool false) w := by
  have u3 := Tryz.underlying9
  have u4 := Tryz.underlying4
  have hS : Tryz.prog.underlying 33 = some (.struct (Tryz.prog.fieldsOf 33)) := by kernel_rfl
  have hp : Tryz.prog.stoodInHeld 33 = false := by kernel_rfl
  rw [run_neq_struct, show (10000 : Nat) = 9999 + 1 from rfl, run_equalIn_agg w 9999 33 _ _ hS hp]
  simp only [Program.fieldsOf, Tryz.underlying33]
  have a3 := Tryz.isAgg9
  have z3 := Tryz.sizeOf9
  have a4 := Tryz.isAgg4
  have z4 := Tryz.sizeOf4
  go_simp

set_option maxHeartbeats 1000000 in
set_option maxRecDepth 100000 in
theorem entries_any (v u : Value) (es : List M.En) (w : World) (h : El w v es) (h2 : El w u es) (hl : es.length ≤ maxLen) :
    Calls Tryz.prog 13 #[v, u] w fun e w' => e = .returned (.bool true) ∧ ∃ n, w' = w.drewN n := by
  unfold maxLen at hl
  obtain ⟨p, cap, rfl⟩ := h.len
  obtain ⟨p2, cap2, rfl⟩ := h2.len
  have H := Lib.hid h
  have H2 := Lib.hid h2
  clear h h2
  go_enter Tryz.func13, Tryz.ntmps13
  go_wp2
  go_loopw [5] (fun i wr => ∃ k n : Nat, k ≤ es.length ∧ i = .int .i64 k ∧ wr = w.drewN n) (fun i _ => es.length - (intOf i).toNat)
  case atStart => exact ⟨0, 0, Nat.zero_le _, rfl, rfl⟩
  case round =>
    obtain ⟨k, n, hk, rfl, rfl⟩ := hrel
    by_cases hlt : k < es.length
    · obtain ⟨b, off, rfl, hb, hc⟩ := (H.out.drewN n).at (by intro h; rw [h] at hlt; exact absurd hlt (Nat.not_lt_zero _))
      obtain ⟨b2, off2, rfl, hb2, hd⟩ := (H2.out.drewN n).at (by intro h; rw [h] at hlt; exact absurd hlt (Nat.not_lt_zero _))
      obtain ⟨c0, c1, c2⟩ := hc k hlt
      obtain ⟨d0, d1, d2⟩ := hd k hlt
      clear hc hd hb hb2
      generalize hf : es[k] = f at *
      have hneq := neq_entry f
      have hgd := guard_entry
      clear hf
      generalize hwq : w.drewN n = wq at *
      have HW := Lib.hid hwq
      clear hwq
      go_wp2
      go_quiet (fail)
      go_wp2
      go_roundw
      case rel => exact ⟨k + 1, n + nq, by omega, by go_num, by rw [← HW.out, drewN_add]⟩
      case measure => simp [intOf]; omega
    · obtain rfl : k = es.length := by omega
      go_wp2
      go_ret
      exact ⟨rfl, n, rfl⟩
end Go.Proofs.YtabcobadglgfkaaGreatDoor

/- The document's bytes of entries, and whether entries may be. -/
namespace Go.Proofs.YtabcobadglgfkaaGreatDoor
open Go.RowKit

set_option maxHeartbeats 2000000 in
set_option maxRecDepth 100000 in
theorem right_any (v : Value) (es : List M.En) (w : World) (h : El w v es) (hl : es.length ≤ maxLen) (hs : ∀ e ∈ es, e.1.length ≤ maxLen ∧ e.2.2.length ≤ maxLen) :
    Calls Tryz.prog 43 #[v] w fun e w' => e = .returned (.bool (M.right es)) ∧ ∃ n, w' = w.drewN n := by
  unfold maxLen at hl
  obtain ⟨p, cap, rfl⟩ := h.len
  have H := Lib.hid h
  have HS := Lib.hid hs
  clear h hs
  go_enter Tryz.func43, Tryz.ntmps43
  go_wp2
  go_loopw [3] (fun i wr => ∃ k n : Nat, k ≤ es.length ∧ i = .int .i64 k ∧ wr = w.drewN n ∧ Hid (∀ j, j < k → M.rightAt es j = true)) (fun i _ => es.length - (intOf i).toNat)
  case atStart => exact ⟨0, 0, Nat.zero_le _, rfl, rfl, Lib.hid (fun j h => absurd h (Nat.not_lt_zero _))⟩
  case round =>
    obtain ⟨k, n, hk, rfl, rfl, hall⟩ := hrel
    by_cases hlt : k < es.length
    · obtain ⟨b, off, rfl, hb, hc⟩ := (H.out.drewN n).at (by intro h; rw [h] at hlt; exact absurd hlt (Nat.not_lt_zero _))
      obtain ⟨c0, c1, c2⟩ := hc k hlt
      have HC := Lib.hid hc
      have HRA := Lib.hid (rightAt_eq hlt)
      have HNO := Lib.hid (show M.rightAt es k = false → M.right es = false from fun h => by
        cases hr : M.right es with
        | false => rfl
        | true => have := (M.right_iff es).1 hr k hlt; rw [h] at this; cases this)
      have HYES := Lib.hid (show M.rightAt es k = true → ∀ j, j < k + 1 → M.rightAt es j = true from fun h j hj => by
        by_cases he : j = k
        · subst he; exact h
        · exact hall.out j (by omega))
      obtain ⟨hsn, hsg⟩ := HS.out _ (List.getElem_mem hlt)
      clear hc hall c1 hb
      generalize hx : es[k] = x at *
      clear hx
      obtain ⟨nm, d, g⟩ := x
      simp only at c0 c2 hsn hsg HRA
      have HH := Lib.hid (head_any nm hsn (w.drewN n))
      have HP := Lib.hid (fun w1 => rpath_any nm hsn w1)
      have HIN := Lib.hid (show isN nm = (M.path nm == 0 && !decide (47 ∈ nm)) from rfl)
      have hpr : M.path nm = 0 ∨ M.path nm = 13 := by unfold M.path; split <;> simp
      have hgs := size_mk g
      rw [HIN.out] at HRA
      clear HIN
      generalize hwq : w.drewN n = wq at *
      have HW := Lib.hid hwq
      clear hwq
      generalize decide (47 ∈ nm) = b47 at *
      generalize M.head1 nm = h1 at *
      generalize M.path nm = pe at *
      cases b47 with
      | true =>
        have HE := Lib.hid (HNO.out (by rw [HRA.out] <;> simp))
        clear HNO HYES HRA HC
        go_wp2_with ((with_reducible refine HH.out.mono ?_); rintro e w1 ⟨rfl, hw⟩; obtain rfl := hw.symm)
        go_quiet ((go_at_call 83; with_reducible refine Calls.quiet_of_same (HP.out _)))
        go_wp2
        go_ret
        exact ⟨ret_bool HE.out.symm, _, by rw [← HW.out, drewN_add]⟩
      | false =>
        rcases hpr with rfl | rfl
        · by_cases hg : g.length = 32
          · have hz : ((g.length : Int) != 32) = false := by rw [hg]; rfl
            by_cases hk0 : k = 0
            · have hg0 : decide (0 < k) = false := decide_eq_false (by omega)
              have HY := Lib.hid (HYES.out (by rw [HRA.out, decide_eq_true hg, decide_eq_true hk0] <;> rfl))
              clear HNO HYES HRA HC hk0
              go_wp2_with ((with_reducible refine HH.out.mono ?_); rintro e w1 ⟨rfl, hw⟩; obtain rfl := hw.symm)
              go_quiet ((go_at_call 83; with_reducible refine Calls.quiet_of_same (HP.out _)))
              go_wp2
              go_roundw
              case rel => exact ⟨k + 1, _, by omega, by go_num, by rw [← HW.out, drewN_add], HY⟩
              case measure => simp [intOf]; omega
            · have hg0 : decide (0 < k) = true := decide_eq_true (by omega)
              have hkp : (0 : Int) < (k : Int) := by omega
              obtain ⟨p0, _, _⟩ := HC.out (k - 1) (by omega)
              have hwk : IntKind.i64.wrap ((k : Int) - 1) = (k : Int) - 1 := IntWalk.i64_in _ (by omega)
              have hk1 : (0 : Int) ≤ (k : Int) - 1 := by omega
              have hk2 : (k : Int) - 1 < (es.length : Int) := by omega
              have hk3 : ((k : Int) - 1).toNat = k - 1 := by omega
              rw [decide_eq_true hg, decide_eq_false hk0] at HRA
              generalize (es[k - 1]'(by omega)).1 = pn at *
              generalize hbl : M.bl pn nm = r at *
              cases r with
              | true =>
                have HY := Lib.hid (HYES.out (by rw [HRA.out] <;> rfl))
                clear HNO HYES HRA HC
                go_wp2_with ((with_reducible refine HH.out.mono ?_); rintro e w1 ⟨rfl, hw⟩; obtain rfl := hw.symm)
                go_quiet ((go_at_call 83; with_reducible refine Calls.quiet_of_same (HP.out _)))
                go_wp2
                go_roundw
                case rel => exact ⟨k + 1, _, by omega, by go_num, by rw [← HW.out, drewN_add], HY⟩
                case measure => simp [intOf]; omega
              | false =>
                have HE := Lib.hid (HNO.out (by rw [HRA.out] <;> rfl))
                clear HNO HYES HRA HC
                go_wp2_with ((with_reducible refine HH.out.mono ?_); rintro e w1 ⟨rfl, hw⟩; obtain rfl := hw.symm)
                go_quiet ((go_at_call 83; with_reducible refine Calls.quiet_of_same (HP.out _)))
                go_wp2
                go_ret
                exact ⟨ret_bool HE.out.symm, _, by rw [← HW.out, drewN_add]⟩
          · have hz : ((g.length : Int) != 32) = true := by rw [bne_iff_ne]; omega
            have HE := Lib.hid (HNO.out (by rw [HRA.out, decide_eq_false hg] <;> rfl))
            clear HNO HYES HRA HC
            go_wp2_with ((with_reducible refine HH.out.mono ?_); rintro e w1 ⟨rfl, hw⟩; obtain rfl := hw.symm)
            go_quiet ((go_at_call 83; with_reducible refine Calls.quiet_of_same (HP.out _)))
            go_wp2
            go_ret
            exact ⟨ret_bool HE.out.symm, _, by rw [← HW.out, drewN_add]⟩
        · have HE := Lib.hid (HNO.out (by rw [HRA.out] <;> rfl))
          clear HNO HYES HRA HC
          go_wp2_with ((with_reducible refine HH.out.mono ?_); rintro e w1 ⟨rfl, hw⟩; obtain rfl := hw.symm)
          go_quiet ((go_at_call 83; with_reducible refine Calls.quiet_of_same (HP.out _)))
          go_wp2
          go_ret
          exact ⟨ret_bool HE.out.symm, _, by rw [← HW.out, drewN_add]⟩
    · obtain rfl : k = es.length := by omega
      have HY := Lib.hid ((M.right_iff es).2 hall.out)
      clear hall
      go_wp2
      go_ret
      exact ⟨ret_bool HY.out.symm, n, rfl⟩
end Go.Proofs.YtabcobadglgfkaaGreatDoor

/- The document's bytes of entries. -/
namespace Go.Proofs.YtabcobadglgfkaaGreatDoor
open Go.RowKit

theorem step_append_str {P : Program} {w : World} {ops : Array Oper} {o : Oper} {a : Act} {K : Act → World → Prop} {Q : Exit → Act → World → Prop} {E : Prop} (hgd : o.guard = none) (s x : Operand) (t u : TypeId)
    (ho : o.op = .call { callee := .builtin .append, args := #[s, x], argTypes := #[t, u] }) (v : Value) (b : ByteArray) (hs : a.eval s = v) (hx : a.eval x = .string b) (v' : Value) (w' : World)
    (hr : (Builtin.append_ #[t, u] o.type #[v, .string b]).run P w = .ok v' w') (h : K (a.put o.dst v') w') :
    if Region.wanted o (yielded ops a.tmps) = true then Oper.wp P o a w K Q else E := by
  have hw : Region.wanted o (yielded ops a.tmps) = true := by simp [Region.wanted, hgd]
  rw [if_pos hw]
  unfold Oper.wp execOp
  simp only [ho, resolve, invoke, builtin, Sem.run_bind, Sem.run_pure, Result.andThen_ok, List.map_toArray, List.map_cons, List.map_nil, hs, hx, hr]
  exact h

set_option maxHeartbeats 4000000 in
set_option maxRecDepth 100000 in
theorem rbytes_any (v : Value) (es : List M.En) (w : World) (h : El w v es) (hl : es.length ≤ maxLen) (hsum : (M.bytes es).length ≤ 140737488355328) :
    Calls Tryz.prog 44 #[v] w fun e w' => e = .returned (.string ⟨⟨M.bytes es⟩⟩) ∧ Old w w' := by
  unfold maxLen at hl
  obtain ⟨i0, hi, hz0, hz1, hz2⟩ := info_parts infoByte
  obtain ⟨pp, cap, rfl⟩ := h.len
  have H := Lib.hid h
  clear h
  go_enter Tryz.func44, Tryz.ntmps44
  go_wp2
  go_loopw [3, 4] (fun o i wr => ∃ k : Nat, k ≤ es.length ∧ i = .int .i64 k ∧ wr.ownsRow w.heap.size 5 1 o (M.bytes (es.take k)).length (Lib.byteCells (M.bytes (es.take k))) ∧ Old w wr) (fun _ i _ => es.length - (intOf i).toNat)
  case atStart => exact ⟨0, Nat.zero_le _, rfl, World.ownsRow_nil _ _ _ _, Below.refl _ _⟩
  case round =>
    obtain ⟨k, hk, rfl, hown, ho⟩ := hrel
    have HO := Lib.hid ho
    have hsz := ho.size
    by_cases hlt : k < es.length
    · obtain ⟨b, off, rfl, hbw, hc⟩ := (H.out.old HO.out).at (by intro h; rw [h] at hlt; exact absurd hlt (Nat.not_lt_zero _))
      obtain ⟨hc0, hc1, hc2⟩ := hc k hlt
      clear hc ho
      have hp1 := bytes_succ es k hlt
      have hle := bytes_take es (k + 1)
      rw [hp1, List.length_append] at hle
      have HP := Lib.hid hp1
      clear hp1
      have hpe : (M.packs [es[k].1, M.mark es[k].2.1, es[k].2.2]).length ≤ (M.enBytes es[k]).length := pack_ge _
      have heach : ∀ s ∈ [es[k].1, M.mark es[k].2.1, es[k].2.2], s.length ≤ (M.packs [es[k].1, M.mark es[k].2.1, es[k].2.2]).length := fun s hs => packs_ge hs
      have hen : M.enBytes es[k] = M.pack (M.packs [es[k].1, M.mark es[k].2.1, es[k].2.2]) := rfl
      rw [hen] at HP hpe hle
      clear hen
      generalize es[k] = x at *
      obtain ⟨n, d, g⟩ := x
      simp only at *
      have hHL : ∀ (m : List UInt8), M.mark d = m → Calls Tryz.prog 84 #[.slice (some ⟨wr.heap.size, 0, none⟩) 3 3] (wr.alloc (.cells #[S n, S m, S g] 9)).drew fun e w' => e = .returned (.string ⟨⟨M.pack (M.packs [n, M.mark d, g])⟩⟩) ∧ Old (wr.alloc (.cells #[S n, S m, S g] 9)).drew w' := by
        intro m hm
        subst hm
        refine reflist_any _ [n, M.mark d, g] (wr.heap.size + 1) _ ⟨_, 3, rfl, (fun h => by cases h), fun _ => ⟨wr.heap.size, 0, rfl, by omega, fun j hj => ?_⟩⟩ (by simp [World.drew]) (by simp [maxLen]) (by omega) (fun s hs => by have := heach s hs; omega)
        rw [Nat.zero_add]
        exact ((Blk.new wr #[S n, S (M.mark d), S g] 9).cell j).trans (by simp [vstr])
      have HL := Lib.hid hHL
      clear hHL heach
      have HOWN := Lib.hid hown
      clear hown
      generalize M.bytes (es.take k) = pk at *
      have hzx : (⟨⟨M.pack (M.packs [n, M.mark d, g])⟩⟩ : ByteArray).size = (M.pack (M.packs [n, M.mark d, g])).length := rfl
      generalize M.pack (M.packs [n, M.mark d, g]) = x at *
      have HZ := Lib.hid hzx
      have hle2 : pk.length + x.length ≤ 140737488355328 := by omega
      have HLE := Lib.hid hle2
      clear hzx hle hle2 hsum hpe
      have hOA : ∀ (m : List UInt8) (w1 : World), Old (wr.alloc (.cells #[S n, S m, S g] 9)).drew w1 → wr.ownsRow w.heap.size 5 1 u3 pk.length (Lib.byteCells pk) → ∃ v' w2, (Builtin.append_ #[55, 9] 55 #[u3, .string ⟨⟨x⟩⟩]).run Tryz.prog w1 = .ok v' w2 ∧ w2.ownsRow w.heap.size 5 1 v' (pk ++ x).length (Lib.byteCells (pk ++ x)) ∧ Old w w2 := fun m w1 h1 h2 => by
        have o1 := HO.out.trans (((Old.alloc wr _).trans (Old.drewN _ 1)).trans h1)
        have hown1 := row_keep h2 (Keep.of_old (S := fun _ => False) (((Old.alloc wr _).trans (Old.drewN _ 1)).trans h1)) (fun _ _ h => h)
        obtain ⟨v', w2, e1, e2, e3, _⟩ := Lib.run_append_own_string (P := Tryz.prog) w1 w.heap.size 55 9 55 5 i0 Tryz.underlying55 Tryz.underlying9 hi hz0 hz1 hz2 u3 pk.length (Lib.byteCells pk) hown1 ⟨⟨x⟩⟩ (by have := HLE.out; have := HZ.out; unfold maxLen; omega) (by have := HLE.out; have := HZ.out; omega) o1.size
        exact ⟨v', w2, e1, by simpa [HZ.out, Lib.byteCells, Lib.strCells] using e2, o1.grown e3 o1.size (fun g hg => row_from hown1 g hg)⟩
      have HOA := Lib.hid hOA
      clear hOA
      cases d with
      | true =>
        have HL1 := Lib.hid (HL.out [100] rfl)
        have HOA1 := Lib.hid (HOA.out [100])
        clear HL HOA
        go_upto_region 8 with (fail)
        refine wp_region_any (by kernel_rfl) ?_
        change wpAny _ _ _ _ _ _ _ (World.drew _)
        refine wpAny_take (i := 0) (v := ?_) rfl (by kernel_rfl) (by kernel_rfl) (by kernel_rfl) (fun _ _ _ h => h) (Or.inl ⟨by kernel_rfl, ?_⟩) ?_
        rotate_left
        · intro w'; go_simp; try with_reducible rfl
        refine wpAny_take (i := 1) (v := ?_) rfl (by kernel_rfl) (by kernel_rfl) (by kernel_rfl) (fun _ _ _ h => h) (Or.inl ⟨by kernel_rfl, ?_⟩) ?_
        rotate_left
        · intro w'; go_simp; try with_reducible rfl
        refine wpAny_take (i := 2) (v := ?_) rfl (by kernel_rfl) (by kernel_rfl) (by kernel_rfl) (fun _ _ _ h => h) (Or.inl ⟨by kernel_rfl, ?_⟩) ?_
        rotate_left
        · intro w'; go_simp; try with_reducible rfl
        refine wpAny_take (i := 6) (v := ?_) rfl (by kernel_rfl) (by kernel_rfl) (by kernel_rfl) (fun _ _ _ h => h) (Or.inl ⟨by kernel_rfl, ?_⟩) ?_
        rotate_left
        · intro w'; go_simp; try with_reducible rfl
        refine wpAny_take (i := 7) (v := ?_) rfl (by kernel_rfl) (by kernel_rfl) (by kernel_rfl) (fun _ _ _ h => h) (Or.inl ⟨by kernel_rfl, ?_⟩) ?_
        rotate_left
        · intro w'; go_simp; try with_reducible rfl
        refine wpAny_take (i := 8) (v := ?_) rfl (by kernel_rfl) (by kernel_rfl) (by kernel_rfl) (fun _ _ _ h => h) (Or.inl ⟨by kernel_rfl, ?_⟩) ?_
        rotate_left
        · intro w'; go_simp; try with_reducible rfl
        refine wpAny_ready (rs := [3, 9]) (by kernel_rfl) (by simp) ?_
        refine AllReady.cons rfl (fun K hK => ?_) (AllReady.cons rfl (fun K hK => ?_) AllReady.nil)
        · skip
          go_simp
          refine hK _ _ ?_
          clear hK K
          refine wpAny_take (i := 4) (v := ?_) rfl (by kernel_rfl) (by kernel_rfl) (by kernel_rfl) (fun _ _ _ h => h) (Or.inl ⟨by kernel_rfl, ?_⟩) ?_
          rotate_left
          · intro w'; go_simp; try with_reducible rfl
          refine wpAny_ready (rs := [5, 9]) (by kernel_rfl) (by simp) ?_
          refine AllReady.cons rfl (fun K hK => ?_) (AllReady.cons rfl (fun K hK => ?_) AllReady.nil)
          · skip
            go_simp
            refine hK _ _ ?_
            clear hK K
            refine wpAny_ready (rs := [9]) (by kernel_rfl) (by simp) ?_
            refine AllReady.cons rfl (fun K hK => ?_) AllReady.nil
            go_simp
            refine hK _ _ ?_
            clear hK K
            refine wpAny_take (i := 10) (v := ?_) rfl (by kernel_rfl) (by kernel_rfl) (by kernel_rfl) (fun _ _ _ h => h) (Or.inl ⟨by kernel_rfl, ?_⟩) ?_
            rotate_left
            · intro w'; go_simp; try with_reducible rfl
            refine wpAny_ready (rs := [11]) (by kernel_rfl) (by simp) ?_
            refine AllReady.cons rfl (fun K hK => ?_) AllReady.nil
            go_simp
            refine hK _ _ ?_
            clear hK K
            refine wpAny_ready (rs := [12]) (by kernel_rfl) (by simp) ?_
            refine AllReady.cons rfl (fun K hK => ?_) AllReady.nil
            go_simp
            refine hK _ _ ?_
            clear hK K
            refine wpAny_ready (rs := [13]) (by kernel_rfl) (by simp) ?_
            refine AllReady.cons rfl (fun K hK => ?_) AllReady.nil
            go_simp
            go_wp2_with ((with_reducible refine HL1.out.mono ?_); rintro e w1 ⟨rfl, ho1⟩)
            obtain ⟨v', w2, hrun, hown2, ho2⟩ := HOA1.out w1 ho1 HOWN.out
            refine wpAny_ready (rs := [14]) (by kernel_rfl) (by simp) ?_
            refine AllReady.cons rfl (fun K hK => ?_) AllReady.nil
            refine step_append_str rfl _ _ _ _ rfl _ _ rfl rfl _ _ hrun ?_
            refine hK _ _ ?_
            clear hK K
            refine wpAny_take (i := 15) (v := ?_) rfl (by kernel_rfl) (by kernel_rfl) (by kernel_rfl) (fun _ _ _ h => h) (Or.inl ⟨by kernel_rfl, ?_⟩) ?_
            rotate_left
            · intro w'; go_simp; try with_reducible rfl
            refine wpAny_done (by kernel_rfl) ?_ _
            go_simp
            go_wp2
            go_roundw
            case rel => exact ⟨k + 1, by omega, by go_num, by rw [HP.out]; exact hown2, ho2⟩
            case measure => simp [intOf]; omega
          · skip
            go_simp
            refine hK _ _ ?_
            clear hK K
            refine wpAny_take (i := 10) (v := ?_) rfl (by kernel_rfl) (by kernel_rfl) (by kernel_rfl) (fun _ _ _ h => h) (Or.inl ⟨by kernel_rfl, ?_⟩) ?_
            rotate_left
            · intro w'; go_simp; try with_reducible rfl
            refine wpAny_ready (rs := [5, 11]) (by kernel_rfl) (by simp) ?_
            refine AllReady.cons rfl (fun K hK => ?_) (AllReady.cons rfl (fun K hK => ?_) AllReady.nil)
            · skip
              go_simp
              refine hK _ _ ?_
              clear hK K
              refine wpAny_ready (rs := [11]) (by kernel_rfl) (by simp) ?_
              refine AllReady.cons rfl (fun K hK => ?_) AllReady.nil
              go_simp
              refine hK _ _ ?_
              clear hK K
              refine wpAny_ready (rs := [12]) (by kernel_rfl) (by simp) ?_
              refine AllReady.cons rfl (fun K hK => ?_) AllReady.nil
              go_simp
              refine hK _ _ ?_
              clear hK K
              refine wpAny_ready (rs := [13]) (by kernel_rfl) (by simp) ?_
              refine AllReady.cons rfl (fun K hK => ?_) AllReady.nil
              go_simp
              go_wp2_with ((with_reducible refine HL1.out.mono ?_); rintro e w1 ⟨rfl, ho1⟩)
              obtain ⟨v', w2, hrun, hown2, ho2⟩ := HOA1.out w1 ho1 HOWN.out
              refine wpAny_ready (rs := [14]) (by kernel_rfl) (by simp) ?_
              refine AllReady.cons rfl (fun K hK => ?_) AllReady.nil
              refine step_append_str rfl _ _ _ _ rfl _ _ rfl rfl _ _ hrun ?_
              refine hK _ _ ?_
              clear hK K
              refine wpAny_take (i := 15) (v := ?_) rfl (by kernel_rfl) (by kernel_rfl) (by kernel_rfl) (fun _ _ _ h => h) (Or.inl ⟨by kernel_rfl, ?_⟩) ?_
              rotate_left
              · intro w'; go_simp; try with_reducible rfl
              refine wpAny_done (by kernel_rfl) ?_ _
              go_simp
              go_wp2
              go_roundw
              case rel => exact ⟨k + 1, by omega, by go_num, by rw [HP.out]; exact hown2, ho2⟩
              case measure => simp [intOf]; omega
            · skip
              go_simp
              refine hK _ _ ?_
              clear hK K
              refine wpAny_ready (rs := [5]) (by kernel_rfl) (by simp) ?_
              refine AllReady.cons rfl (fun K hK => ?_) AllReady.nil
              go_simp
              refine hK _ _ ?_
              clear hK K
              refine wpAny_ready (rs := [12]) (by kernel_rfl) (by simp) ?_
              refine AllReady.cons rfl (fun K hK => ?_) AllReady.nil
              go_simp
              refine hK _ _ ?_
              clear hK K
              refine wpAny_ready (rs := [13]) (by kernel_rfl) (by simp) ?_
              refine AllReady.cons rfl (fun K hK => ?_) AllReady.nil
              go_simp
              go_wp2_with ((with_reducible refine HL1.out.mono ?_); rintro e w1 ⟨rfl, ho1⟩)
              obtain ⟨v', w2, hrun, hown2, ho2⟩ := HOA1.out w1 ho1 HOWN.out
              refine wpAny_ready (rs := [14]) (by kernel_rfl) (by simp) ?_
              refine AllReady.cons rfl (fun K hK => ?_) AllReady.nil
              refine step_append_str rfl _ _ _ _ rfl _ _ rfl rfl _ _ hrun ?_
              refine hK _ _ ?_
              clear hK K
              refine wpAny_take (i := 15) (v := ?_) rfl (by kernel_rfl) (by kernel_rfl) (by kernel_rfl) (fun _ _ _ h => h) (Or.inl ⟨by kernel_rfl, ?_⟩) ?_
              rotate_left
              · intro w'; go_simp; try with_reducible rfl
              refine wpAny_done (by kernel_rfl) ?_ _
              go_simp
              go_wp2
              go_roundw
              case rel => exact ⟨k + 1, by omega, by go_num, by rw [HP.out]; exact hown2, ho2⟩
              case measure => simp [intOf]; omega
        · skip
          go_simp
          refine hK _ _ ?_
          clear hK K
          refine wpAny_take (i := 10) (v := ?_) rfl (by kernel_rfl) (by kernel_rfl) (by kernel_rfl) (fun _ _ _ h => h) (Or.inl ⟨by kernel_rfl, ?_⟩) ?_
          rotate_left
          · intro w'; go_simp; try with_reducible rfl
          refine wpAny_ready (rs := [3, 11]) (by kernel_rfl) (by simp) ?_
          refine AllReady.cons rfl (fun K hK => ?_) (AllReady.cons rfl (fun K hK => ?_) AllReady.nil)
          · skip
            go_simp
            refine hK _ _ ?_
            clear hK K
            refine wpAny_take (i := 4) (v := ?_) rfl (by kernel_rfl) (by kernel_rfl) (by kernel_rfl) (fun _ _ _ h => h) (Or.inl ⟨by kernel_rfl, ?_⟩) ?_
            rotate_left
            · intro w'; go_simp; try with_reducible rfl
            refine wpAny_ready (rs := [5, 11]) (by kernel_rfl) (by simp) ?_
            refine AllReady.cons rfl (fun K hK => ?_) (AllReady.cons rfl (fun K hK => ?_) AllReady.nil)
            · skip
              go_simp
              refine hK _ _ ?_
              clear hK K
              refine wpAny_ready (rs := [11]) (by kernel_rfl) (by simp) ?_
              refine AllReady.cons rfl (fun K hK => ?_) AllReady.nil
              go_simp
              refine hK _ _ ?_
              clear hK K
              refine wpAny_ready (rs := [12]) (by kernel_rfl) (by simp) ?_
              refine AllReady.cons rfl (fun K hK => ?_) AllReady.nil
              go_simp
              refine hK _ _ ?_
              clear hK K
              refine wpAny_ready (rs := [13]) (by kernel_rfl) (by simp) ?_
              refine AllReady.cons rfl (fun K hK => ?_) AllReady.nil
              go_simp
              go_wp2_with ((with_reducible refine HL1.out.mono ?_); rintro e w1 ⟨rfl, ho1⟩)
              obtain ⟨v', w2, hrun, hown2, ho2⟩ := HOA1.out w1 ho1 HOWN.out
              refine wpAny_ready (rs := [14]) (by kernel_rfl) (by simp) ?_
              refine AllReady.cons rfl (fun K hK => ?_) AllReady.nil
              refine step_append_str rfl _ _ _ _ rfl _ _ rfl rfl _ _ hrun ?_
              refine hK _ _ ?_
              clear hK K
              refine wpAny_take (i := 15) (v := ?_) rfl (by kernel_rfl) (by kernel_rfl) (by kernel_rfl) (fun _ _ _ h => h) (Or.inl ⟨by kernel_rfl, ?_⟩) ?_
              rotate_left
              · intro w'; go_simp; try with_reducible rfl
              refine wpAny_done (by kernel_rfl) ?_ _
              go_simp
              go_wp2
              go_roundw
              case rel => exact ⟨k + 1, by omega, by go_num, by rw [HP.out]; exact hown2, ho2⟩
              case measure => simp [intOf]; omega
            · skip
              go_simp
              refine hK _ _ ?_
              clear hK K
              refine wpAny_ready (rs := [5]) (by kernel_rfl) (by simp) ?_
              refine AllReady.cons rfl (fun K hK => ?_) AllReady.nil
              go_simp
              refine hK _ _ ?_
              clear hK K
              refine wpAny_ready (rs := [12]) (by kernel_rfl) (by simp) ?_
              refine AllReady.cons rfl (fun K hK => ?_) AllReady.nil
              go_simp
              refine hK _ _ ?_
              clear hK K
              refine wpAny_ready (rs := [13]) (by kernel_rfl) (by simp) ?_
              refine AllReady.cons rfl (fun K hK => ?_) AllReady.nil
              go_simp
              go_wp2_with ((with_reducible refine HL1.out.mono ?_); rintro e w1 ⟨rfl, ho1⟩)
              obtain ⟨v', w2, hrun, hown2, ho2⟩ := HOA1.out w1 ho1 HOWN.out
              refine wpAny_ready (rs := [14]) (by kernel_rfl) (by simp) ?_
              refine AllReady.cons rfl (fun K hK => ?_) AllReady.nil
              refine step_append_str rfl _ _ _ _ rfl _ _ rfl rfl _ _ hrun ?_
              refine hK _ _ ?_
              clear hK K
              refine wpAny_take (i := 15) (v := ?_) rfl (by kernel_rfl) (by kernel_rfl) (by kernel_rfl) (fun _ _ _ h => h) (Or.inl ⟨by kernel_rfl, ?_⟩) ?_
              rotate_left
              · intro w'; go_simp; try with_reducible rfl
              refine wpAny_done (by kernel_rfl) ?_ _
              go_simp
              go_wp2
              go_roundw
              case rel => exact ⟨k + 1, by omega, by go_num, by rw [HP.out]; exact hown2, ho2⟩
              case measure => simp [intOf]; omega
          · skip
            go_simp
            refine hK _ _ ?_
            clear hK K
            refine wpAny_ready (rs := [3]) (by kernel_rfl) (by simp) ?_
            refine AllReady.cons rfl (fun K hK => ?_) AllReady.nil
            go_simp
            refine hK _ _ ?_
            clear hK K
            refine wpAny_take (i := 4) (v := ?_) rfl (by kernel_rfl) (by kernel_rfl) (by kernel_rfl) (fun _ _ _ h => h) (Or.inl ⟨by kernel_rfl, ?_⟩) ?_
            rotate_left
            · intro w'; go_simp; try with_reducible rfl
            refine wpAny_ready (rs := [5]) (by kernel_rfl) (by simp) ?_
            refine AllReady.cons rfl (fun K hK => ?_) AllReady.nil
            go_simp
            refine hK _ _ ?_
            clear hK K
            refine wpAny_ready (rs := [12]) (by kernel_rfl) (by simp) ?_
            refine AllReady.cons rfl (fun K hK => ?_) AllReady.nil
            go_simp
            refine hK _ _ ?_
            clear hK K
            refine wpAny_ready (rs := [13]) (by kernel_rfl) (by simp) ?_
            refine AllReady.cons rfl (fun K hK => ?_) AllReady.nil
            go_simp
            go_wp2_with ((with_reducible refine HL1.out.mono ?_); rintro e w1 ⟨rfl, ho1⟩)
            obtain ⟨v', w2, hrun, hown2, ho2⟩ := HOA1.out w1 ho1 HOWN.out
            refine wpAny_ready (rs := [14]) (by kernel_rfl) (by simp) ?_
            refine AllReady.cons rfl (fun K hK => ?_) AllReady.nil
            refine step_append_str rfl _ _ _ _ rfl _ _ rfl rfl _ _ hrun ?_
            refine hK _ _ ?_
            clear hK K
            refine wpAny_take (i := 15) (v := ?_) rfl (by kernel_rfl) (by kernel_rfl) (by kernel_rfl) (fun _ _ _ h => h) (Or.inl ⟨by kernel_rfl, ?_⟩) ?_
            rotate_left
            · intro w'; go_simp; try with_reducible rfl
            refine wpAny_done (by kernel_rfl) ?_ _
            go_simp
            go_wp2
            go_roundw
            case rel => exact ⟨k + 1, by omega, by go_num, by rw [HP.out]; exact hown2, ho2⟩
            case measure => simp [intOf]; omega
      | false =>
        have HL1 := Lib.hid (HL.out [102] rfl)
        have HOA1 := Lib.hid (HOA.out [102])
        clear HL HOA
        go_upto_region 8 with (fail)
        refine wp_region_any (by kernel_rfl) ?_
        change wpAny _ _ _ _ _ _ _ (World.drew _)
        refine wpAny_take (i := 0) (v := ?_) rfl (by kernel_rfl) (by kernel_rfl) (by kernel_rfl) (fun _ _ _ h => h) (Or.inl ⟨by kernel_rfl, ?_⟩) ?_
        rotate_left
        · intro w'; go_simp; try with_reducible rfl
        refine wpAny_take (i := 1) (v := ?_) rfl (by kernel_rfl) (by kernel_rfl) (by kernel_rfl) (fun _ _ _ h => h) (Or.inl ⟨by kernel_rfl, ?_⟩) ?_
        rotate_left
        · intro w'; go_simp; try with_reducible rfl
        refine wpAny_take (i := 2) (v := ?_) rfl (by kernel_rfl) (by kernel_rfl) (by kernel_rfl) (fun _ _ _ h => h) (Or.inl ⟨by kernel_rfl, ?_⟩) ?_
        rotate_left
        · intro w'; go_simp; try with_reducible rfl
        refine wpAny_take (i := 6) (v := ?_) rfl (by kernel_rfl) (by kernel_rfl) (by kernel_rfl) (fun _ _ _ h => h) (Or.inl ⟨by kernel_rfl, ?_⟩) ?_
        rotate_left
        · intro w'; go_simp; try with_reducible rfl
        refine wpAny_take (i := 7) (v := ?_) rfl (by kernel_rfl) (by kernel_rfl) (by kernel_rfl) (fun _ _ _ h => h) (Or.inl ⟨by kernel_rfl, ?_⟩) ?_
        rotate_left
        · intro w'; go_simp; try with_reducible rfl
        refine wpAny_take (i := 8) (v := ?_) rfl (by kernel_rfl) (by kernel_rfl) (by kernel_rfl) (fun _ _ _ h => h) (Or.inl ⟨by kernel_rfl, ?_⟩) ?_
        rotate_left
        · intro w'; go_simp; try with_reducible rfl
        refine wpAny_ready (rs := [3, 9]) (by kernel_rfl) (by simp) ?_
        refine AllReady.cons rfl (fun K hK => ?_) (AllReady.cons rfl (fun K hK => ?_) AllReady.nil)
        · skip
          go_simp
          refine hK _ _ ?_
          clear hK K
          refine wpAny_take (i := 4) (v := ?_) rfl (by kernel_rfl) (by kernel_rfl) (by kernel_rfl) (fun _ _ _ h => h) (Or.inl ⟨by kernel_rfl, ?_⟩) ?_
          rotate_left
          · intro w'; go_simp; try with_reducible rfl
          refine wpAny_ready (rs := [5, 9]) (by kernel_rfl) (by simp) ?_
          refine AllReady.cons rfl (fun K hK => ?_) (AllReady.cons rfl (fun K hK => ?_) AllReady.nil)
          · skip
            go_simp
            refine hK _ _ ?_
            clear hK K
            refine wpAny_ready (rs := [9]) (by kernel_rfl) (by simp) ?_
            refine AllReady.cons rfl (fun K hK => ?_) AllReady.nil
            go_simp
            refine hK _ _ ?_
            clear hK K
            refine wpAny_take (i := 10) (v := ?_) rfl (by kernel_rfl) (by kernel_rfl) (by kernel_rfl) (fun _ _ _ h => h) (Or.inl ⟨by kernel_rfl, ?_⟩) ?_
            rotate_left
            · intro w'; go_simp; try with_reducible rfl
            refine wpAny_ready (rs := [11]) (by kernel_rfl) (by simp) ?_
            refine AllReady.cons rfl (fun K hK => ?_) AllReady.nil
            go_simp
            refine hK _ _ ?_
            clear hK K
            refine wpAny_ready (rs := [12]) (by kernel_rfl) (by simp) ?_
            refine AllReady.cons rfl (fun K hK => ?_) AllReady.nil
            go_simp
            refine hK _ _ ?_
            clear hK K
            refine wpAny_ready (rs := [13]) (by kernel_rfl) (by simp) ?_
            refine AllReady.cons rfl (fun K hK => ?_) AllReady.nil
            go_simp
            go_wp2_with ((with_reducible refine HL1.out.mono ?_); rintro e w1 ⟨rfl, ho1⟩)
            obtain ⟨v', w2, hrun, hown2, ho2⟩ := HOA1.out w1 ho1 HOWN.out
            refine wpAny_ready (rs := [14]) (by kernel_rfl) (by simp) ?_
            refine AllReady.cons rfl (fun K hK => ?_) AllReady.nil
            refine step_append_str rfl _ _ _ _ rfl _ _ rfl rfl _ _ hrun ?_
            refine hK _ _ ?_
            clear hK K
            refine wpAny_take (i := 15) (v := ?_) rfl (by kernel_rfl) (by kernel_rfl) (by kernel_rfl) (fun _ _ _ h => h) (Or.inl ⟨by kernel_rfl, ?_⟩) ?_
            rotate_left
            · intro w'; go_simp; try with_reducible rfl
            refine wpAny_done (by kernel_rfl) ?_ _
            go_simp
            go_wp2
            go_roundw
            case rel => exact ⟨k + 1, by omega, by go_num, by rw [HP.out]; exact hown2, ho2⟩
            case measure => simp [intOf]; omega
          · skip
            go_simp
            refine hK _ _ ?_
            clear hK K
            refine wpAny_take (i := 10) (v := ?_) rfl (by kernel_rfl) (by kernel_rfl) (by kernel_rfl) (fun _ _ _ h => h) (Or.inl ⟨by kernel_rfl, ?_⟩) ?_
            rotate_left
            · intro w'; go_simp; try with_reducible rfl
            refine wpAny_ready (rs := [5, 11]) (by kernel_rfl) (by simp) ?_
            refine AllReady.cons rfl (fun K hK => ?_) (AllReady.cons rfl (fun K hK => ?_) AllReady.nil)
            · skip
              go_simp
              refine hK _ _ ?_
              clear hK K
              refine wpAny_ready (rs := [11]) (by kernel_rfl) (by simp) ?_
              refine AllReady.cons rfl (fun K hK => ?_) AllReady.nil
              go_simp
              refine hK _ _ ?_
              clear hK K
              refine wpAny_ready (rs := [12]) (by kernel_rfl) (by simp) ?_
              refine AllReady.cons rfl (fun K hK => ?_) AllReady.nil
              go_simp
              refine hK _ _ ?_
              clear hK K
              refine wpAny_ready (rs := [13]) (by kernel_rfl) (by simp) ?_
              refine AllReady.cons rfl (fun K hK => ?_) AllReady.nil
              go_simp
              go_wp2_with ((with_reducible refine HL1.out.mono ?_); rintro e w1 ⟨rfl, ho1⟩)
              obtain ⟨v', w2, hrun, hown2, ho2⟩ := HOA1.out w1 ho1 HOWN.out
              refine wpAny_ready (rs := [14]) (by kernel_rfl) (by simp) ?_
              refine AllReady.cons rfl (fun K hK => ?_) AllReady.nil
              refine step_append_str rfl _ _ _ _ rfl _ _ rfl rfl _ _ hrun ?_
              refine hK _ _ ?_
              clear hK K
              refine wpAny_take (i := 15) (v := ?_) rfl (by kernel_rfl) (by kernel_rfl) (by kernel_rfl) (fun _ _ _ h => h) (Or.inl ⟨by kernel_rfl, ?_⟩) ?_
              rotate_left
              · intro w'; go_simp; try with_reducible rfl
              refine wpAny_done (by kernel_rfl) ?_ _
              go_simp
              go_wp2
              go_roundw
              case rel => exact ⟨k + 1, by omega, by go_num, by rw [HP.out]; exact hown2, ho2⟩
              case measure => simp [intOf]; omega
            · skip
              go_simp
              refine hK _ _ ?_
              clear hK K
              refine wpAny_ready (rs := [5]) (by kernel_rfl) (by simp) ?_
              refine AllReady.cons rfl (fun K hK => ?_) AllReady.nil
              go_simp
              refine hK _ _ ?_
              clear hK K
              refine wpAny_ready (rs := [12]) (by kernel_rfl) (by simp) ?_
              refine AllReady.cons rfl (fun K hK => ?_) AllReady.nil
              go_simp
              refine hK _ _ ?_
              clear hK K
              refine wpAny_ready (rs := [13]) (by kernel_rfl) (by simp) ?_
              refine AllReady.cons rfl (fun K hK => ?_) AllReady.nil
              go_simp
              go_wp2_with ((with_reducible refine HL1.out.mono ?_); rintro e w1 ⟨rfl, ho1⟩)
              obtain ⟨v', w2, hrun, hown2, ho2⟩ := HOA1.out w1 ho1 HOWN.out
              refine wpAny_ready (rs := [14]) (by kernel_rfl) (by simp) ?_
              refine AllReady.cons rfl (fun K hK => ?_) AllReady.nil
              refine step_append_str rfl _ _ _ _ rfl _ _ rfl rfl _ _ hrun ?_
              refine hK _ _ ?_
              clear hK K
              refine wpAny_take (i := 15) (v := ?_) rfl (by kernel_rfl) (by kernel_rfl) (by kernel_rfl) (fun _ _ _ h => h) (Or.inl ⟨by kernel_rfl, ?_⟩) ?_
              rotate_left
              · intro w'; go_simp; try with_reducible rfl
              refine wpAny_done (by kernel_rfl) ?_ _
              go_simp
              go_wp2
              go_roundw
              case rel => exact ⟨k + 1, by omega, by go_num, by rw [HP.out]; exact hown2, ho2⟩
              case measure => simp [intOf]; omega
        · skip
          go_simp
          refine hK _ _ ?_
          clear hK K
          refine wpAny_take (i := 10) (v := ?_) rfl (by kernel_rfl) (by kernel_rfl) (by kernel_rfl) (fun _ _ _ h => h) (Or.inl ⟨by kernel_rfl, ?_⟩) ?_
          rotate_left
          · intro w'; go_simp; try with_reducible rfl
          refine wpAny_ready (rs := [3, 11]) (by kernel_rfl) (by simp) ?_
          refine AllReady.cons rfl (fun K hK => ?_) (AllReady.cons rfl (fun K hK => ?_) AllReady.nil)
          · skip
            go_simp
            refine hK _ _ ?_
            clear hK K
            refine wpAny_take (i := 4) (v := ?_) rfl (by kernel_rfl) (by kernel_rfl) (by kernel_rfl) (fun _ _ _ h => h) (Or.inl ⟨by kernel_rfl, ?_⟩) ?_
            rotate_left
            · intro w'; go_simp; try with_reducible rfl
            refine wpAny_ready (rs := [5, 11]) (by kernel_rfl) (by simp) ?_
            refine AllReady.cons rfl (fun K hK => ?_) (AllReady.cons rfl (fun K hK => ?_) AllReady.nil)
            · skip
              go_simp
              refine hK _ _ ?_
              clear hK K
              refine wpAny_ready (rs := [11]) (by kernel_rfl) (by simp) ?_
              refine AllReady.cons rfl (fun K hK => ?_) AllReady.nil
              go_simp
              refine hK _ _ ?_
              clear hK K
              refine wpAny_ready (rs := [12]) (by kernel_rfl) (by simp) ?_
              refine AllReady.cons rfl (fun K hK => ?_) AllReady.nil
              go_simp
              refine hK _ _ ?_
              clear hK K
              refine wpAny_ready (rs := [13]) (by kernel_rfl) (by simp) ?_
              refine AllReady.cons rfl (fun K hK => ?_) AllReady.nil
              go_simp
              go_wp2_with ((with_reducible refine HL1.out.mono ?_); rintro e w1 ⟨rfl, ho1⟩)
              obtain ⟨v', w2, hrun, hown2, ho2⟩ := HOA1.out w1 ho1 HOWN.out
              refine wpAny_ready (rs := [14]) (by kernel_rfl) (by simp) ?_
              refine AllReady.cons rfl (fun K hK => ?_) AllReady.nil
              refine step_append_str rfl _ _ _ _ rfl _ _ rfl rfl _ _ hrun ?_
              refine hK _ _ ?_
              clear hK K
              refine wpAny_take (i := 15) (v := ?_) rfl (by kernel_rfl) (by kernel_rfl) (by kernel_rfl) (fun _ _ _ h => h) (Or.inl ⟨by kernel_rfl, ?_⟩) ?_
              rotate_left
              · intro w'; go_simp; try with_reducible rfl
              refine wpAny_done (by kernel_rfl) ?_ _
              go_simp
              go_wp2
              go_roundw
              case rel => exact ⟨k + 1, by omega, by go_num, by rw [HP.out]; exact hown2, ho2⟩
              case measure => simp [intOf]; omega
            · skip
              go_simp
              refine hK _ _ ?_
              clear hK K
              refine wpAny_ready (rs := [5]) (by kernel_rfl) (by simp) ?_
              refine AllReady.cons rfl (fun K hK => ?_) AllReady.nil
              go_simp
              refine hK _ _ ?_
              clear hK K
              refine wpAny_ready (rs := [12]) (by kernel_rfl) (by simp) ?_
              refine AllReady.cons rfl (fun K hK => ?_) AllReady.nil
              go_simp
              refine hK _ _ ?_
              clear hK K
              refine wpAny_ready (rs := [13]) (by kernel_rfl) (by simp) ?_
              refine AllReady.cons rfl (fun K hK => ?_) AllReady.nil
              go_simp
              go_wp2_with ((with_reducible refine HL1.out.mono ?_); rintro e w1 ⟨rfl, ho1⟩)
              obtain ⟨v', w2, hrun, hown2, ho2⟩ := HOA1.out w1 ho1 HOWN.out
              refine wpAny_ready (rs := [14]) (by kernel_rfl) (by simp) ?_
              refine AllReady.cons rfl (fun K hK => ?_) AllReady.nil
              refine step_append_str rfl _ _ _ _ rfl _ _ rfl rfl _ _ hrun ?_
              refine hK _ _ ?_
              clear hK K
              refine wpAny_take (i := 15) (v := ?_) rfl (by kernel_rfl) (by kernel_rfl) (by kernel_rfl) (fun _ _ _ h => h) (Or.inl ⟨by kernel_rfl, ?_⟩) ?_
              rotate_left
              · intro w'; go_simp; try with_reducible rfl
              refine wpAny_done (by kernel_rfl) ?_ _
              go_simp
              go_wp2
              go_roundw
              case rel => exact ⟨k + 1, by omega, by go_num, by rw [HP.out]; exact hown2, ho2⟩
              case measure => simp [intOf]; omega
          · skip
            go_simp
            refine hK _ _ ?_
            clear hK K
            refine wpAny_ready (rs := [3]) (by kernel_rfl) (by simp) ?_
            refine AllReady.cons rfl (fun K hK => ?_) AllReady.nil
            go_simp
            refine hK _ _ ?_
            clear hK K
            refine wpAny_take (i := 4) (v := ?_) rfl (by kernel_rfl) (by kernel_rfl) (by kernel_rfl) (fun _ _ _ h => h) (Or.inl ⟨by kernel_rfl, ?_⟩) ?_
            rotate_left
            · intro w'; go_simp; try with_reducible rfl
            refine wpAny_ready (rs := [5]) (by kernel_rfl) (by simp) ?_
            refine AllReady.cons rfl (fun K hK => ?_) AllReady.nil
            go_simp
            refine hK _ _ ?_
            clear hK K
            refine wpAny_ready (rs := [12]) (by kernel_rfl) (by simp) ?_
            refine AllReady.cons rfl (fun K hK => ?_) AllReady.nil
            go_simp
            refine hK _ _ ?_
            clear hK K
            refine wpAny_ready (rs := [13]) (by kernel_rfl) (by simp) ?_
            refine AllReady.cons rfl (fun K hK => ?_) AllReady.nil
            go_simp
            go_wp2_with ((with_reducible refine HL1.out.mono ?_); rintro e w1 ⟨rfl, ho1⟩)
            obtain ⟨v', w2, hrun, hown2, ho2⟩ := HOA1.out w1 ho1 HOWN.out
            refine wpAny_ready (rs := [14]) (by kernel_rfl) (by simp) ?_
            refine AllReady.cons rfl (fun K hK => ?_) AllReady.nil
            refine step_append_str rfl _ _ _ _ rfl _ _ rfl rfl _ _ hrun ?_
            refine hK _ _ ?_
            clear hK K
            refine wpAny_take (i := 15) (v := ?_) rfl (by kernel_rfl) (by kernel_rfl) (by kernel_rfl) (fun _ _ _ h => h) (Or.inl ⟨by kernel_rfl, ?_⟩) ?_
            rotate_left
            · intro w'; go_simp; try with_reducible rfl
            refine wpAny_done (by kernel_rfl) ?_ _
            go_simp
            go_wp2
            go_roundw
            case rel => exact ⟨k + 1, by omega, by go_num, by rw [HP.out]; exact hown2, ho2⟩
            case measure => simp [intOf]; omega
    · obtain rfl : k = es.length := by omega
      rw [List.take_length] at hown
      have hconv := conv_row wr _ _ _ hown
      clear hsum
      go_wp2
      go_ret
      exact ⟨rfl, HO.out⟩
end Go.Proofs.YtabcobadglgfkaaGreatDoor

/- The document's entries as bytes. -/
namespace Go.Proofs.YtabcobadglgfkaaGreatDoor
open Go.RowKit

theorem small_bytes {es : List M.En} (hl : es.length ≤ 1000000) (hs : ∀ e ∈ es, e.1.length ≤ 1000000 ∧ e.2.2.length = 32) : (M.bytes es).length ≤ 140737488355328 := by
  have := neat_bytes2 hs
  omega
theorem rencode_any (v : Value) (es : List M.En) (w : World) (h : El w v es) (hl : es.length ≤ 1000000) (hs : ∀ e ∈ es, e.1.length ≤ maxLen ∧ e.2.2.length ≤ maxLen) :
    Calls Tryz.prog 20 #[v] w fun e w' => e = .returned (.tuple #[.string ⟨⟨(M.encode es).1⟩⟩, .int .i64 (M.encode es).2]) ∧ Old w w' := by
  have G1 := Lib.hid (right_any v es w h (by unfold maxLen; omega) hs)
  by_cases hr : M.right es = true
  · rw [hr] at G1
    have G2 := Lib.hid (fun w1 (ho : Old w w1) => rbytes_any v es w1 (h.old ho) (by unfold maxLen; omega) (by have := bytes_len (right_all hr); omega))
    rw [right_yes hr]
    clear h hs
    go_enter Tryz.func20, Tryz.ntmps20
    go_wp2_with (first
      | ((with_reducible refine G1.out.mono ?_); rintro e w1 ⟨rfl, n1, rfl⟩; have o1 := Old.drewN w n1)
      | ((with_reducible refine (G2.out _ o1).mono ?_); rintro e w2 ⟨rfl, o2⟩))
    go_ret2
    exact ⟨rfl, o1.trans o2⟩
  · rw [Bool.not_eq_true] at hr
    rw [hr] at G1
    have he : M.encode es = ([], 11) := by unfold M.encode; rw [hr]; rfl
    rw [he]
    clear h hs
    go_enter Tryz.func20, Tryz.ntmps20
    go_wp2_with ((with_reducible refine G1.out.mono ?_); rintro e w1 ⟨rfl, n1, rfl⟩; have o1 := Old.drewN w n1)
    go_ret2
    exact ⟨rfl, o1⟩
end Go.Proofs.YtabcobadglgfkaaGreatDoor
