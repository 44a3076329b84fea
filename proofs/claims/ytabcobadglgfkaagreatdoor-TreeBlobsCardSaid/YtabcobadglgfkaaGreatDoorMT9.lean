/- Merged of: TreeRG. -/
import Derived.Test.YtabcobadglgfkaaGreatDoorMT8
import Derived.Test.YtabcobadglgfkaaGreatDoorMB5
import Derived.Test.YtabcobadglgfkaaGreatDoorMF3
/- The entries of a directory, as the document has them. -/
namespace Go.Proofs.YtabcobadglgfkaaGreatDoor
open Go.RowKit

theorem setOf_snoc (fs : List M.Fi) (k : Nat) (h : k < fs.length) : M.setOf ((fs.take (k + 1)).map fun f => M.head1 f.1) = M.insN (M.setOf ((fs.take k).map fun f => M.head1 f.1)) (M.head1 fs[k].1) := by
  unfold M.setOf
  rw [List.take_succ_eq_append_getElem h, List.map_append, List.foldl_append]
  rfl
theorem setOf_small (fs : List M.Fi) (k : Nat) : (M.setOf ((fs.take k).map fun f => M.head1 f.1)).length ≤ fs.length := by
  have := M.setOf_len ((fs.take k).map fun f => M.head1 f.1)
  rw [List.length_map, List.length_take] at this
  omega
theorem names_all (fs : List M.Fi) : M.setOf ((fs.take fs.length).map fun f => M.head1 f.1) = M.names fs := by rw [List.take_length]; rfl

/-- Few files, and small. -/
def Less (fs : List M.Fi) : Prop := fs.length ≤ 1000 ∧ ∀ f ∈ fs, f.1.length ≤ 1000 ∧ f.2.length ≤ 100000
theorem Less.tame {fs : List M.Fi} (h : Less fs) : Tame fs := ⟨by have := h.1; omega, fun f hf => by have := h.2 f hf; omega⟩
theorem Less.under {fs : List M.Fi} (h : Less fs) (n : List UInt8) : Less (M.under fs n) :=
  ⟨Nat.le_trans (under_len fs n) h.1, fun f hf => by
    obtain ⟨g, hg, h1, h2⟩ := M.under_short hf
    have := h.2 g hg
    rw [h2]
    omega⟩
theorem get_less {fs : List M.Fi} (h : Less fs) (n : List UInt8) : (M.get fs n).1.length ≤ 100000 := by
  unfold M.get
  split
  · rename_i f hf
    exact (h.2 f (List.mem_of_find?_eq_some hf)).2
  · simp

theorem step_append_run {P : Program} {w : World} {ops : Array Oper} {o : Oper} {a : Act} {K : Act → World → Prop} {Q : Exit → Act → World → Prop} {E : Prop} (hgd : o.guard = none) (s x : Operand) (t u : TypeId)
    (ho : o.op = .call { callee := .builtin .append, args := #[s, x], argTypes := #[t, u] }) (v xv : Value) (hs : a.eval s = v) (hx : a.eval x = xv) (v' : Value) (w' : World)
    (hr : (Builtin.append_ #[t, u] o.type #[v, xv]).run P w = .ok v' w') (h : K (a.put o.dst v') w') :
    if Region.wanted o (yielded ops a.tmps) = true then Oper.wp P o a w K Q else E := by
  have hw : Region.wanted o (yielded ops a.tmps) = true := by simp [Region.wanted, hgd]
  rw [if_pos hw]
  unfold Oper.wp execOp
  simp only [ho, resolve, invoke, builtin, Sem.run_bind, Sem.run_pure, Result.andThen_ok, List.map_toArray, List.map_cons, List.map_nil, hs, hx, hr]
  exact h
/-- An entry behind entries that the call owns. -/
theorem append_entry {B : Nat} {w w3 : World} {o : Value} {acc : List M.En} (n : List UInt8) (d : Bool) (g : List UInt8) (h : EOwn B w3 o acc) (hw : w.heap.size ≤ B) (hB : B ≤ w3.heap.size) (ho : Old w w3) (hl : acc.length ≤ 2000000) :
    ∃ v' w5, (Builtin.append_ #[26, 26] 26 #[o, .slice (some ⟨w3.heap.size, 0, none⟩) 1 1]).run Tryz.prog (w3.alloc (.cells #[S n, .bool d, S g] 33)) = .ok v' w5 ∧ EOwn B w5 v' (acc ++ [(n, d, g)]) ∧ Old w w5 := by
  obtain ⟨i0, hi, hz0, hz1, hz2⟩ := info_parts infoEntry
  have h4 : EOwn B (w3.alloc (.cells #[S n, .bool d, S g] 33)) o acc := EOwn.old h (Old.alloc _ _)
  have hb := Blk.new w3 #[S n, .bool d, S g] 33
  obtain ⟨v', w5, e1, e2, e3, _⟩ := run_append_own_at (P := Tryz.prog) (w3.alloc (.cells #[S n, .bool d, S g] 33)) B 26 26 33 i0 _ 3 40 Tryz.underlying26 hi hz0 hz1 hz2 rfl (by decide) o acc.length (ecells acc) h4 ⟨w3.heap.size, 0, none⟩ 1 1 [S n, .bool d, S g] rfl
    (by
      intro j u hj
      rw [Addr.add_lit, Nat.zero_add]
      match j, hj with
      | 0, hj => cases hj; exact hb.cellN 0 rfl
      | 1, hj => cases hj; exact hb.cellN 1 rfl
      | 2, hj => cases hj; exact hb.cellN 2 rfl)
    (by intro u hu; simp only [List.mem_cons, List.not_mem_nil, or_false] at hu; rcases hu with rfl | rfl | rfl <;> rfl) (by unfold maxLen; omega) (by omega) (by rw [World.size_alloc]; omega)
  refine ⟨v', w5, e1, ?_, Old.grownRow h4 hw (ho.trans (Old.alloc _ _)) e3⟩
  show w5.ownsRow B 33 3 v' (acc ++ [(n, d, g)]).length (ecells (acc ++ [(n, d, g)]))
  rw [ecells_append, ecells_one, List.length_append]
  exact e2

set_option maxHeartbeats 8000000 in
set_option maxRecDepth 100000 in
theorem rnames_walk (hp : PressSpec) (fs : List M.Fi) (v0 : Value) (p : List UInt8) (w : World) (ht : Less fs)
    (HU : Calls Tryz.prog 34 #[v0, S p] w fun e w' => ∃ u, e = .returned u ∧ Fl w' u fs ∧ Old w w')
    (HREC : ∀ n ∈ M.names fs, ∀ w1 v1, Fl w1 v1 (M.under fs n) → Calls Tryz.prog 38 #[v1] w1 fun e w' => e = .returned (S (M.sum (M.bytes (M.dir (M.under fs n))))) ∧ Old w1 w') :
    Calls Tryz.prog 15 #[v0, S p] w fun e w' => ∃ u, e = .returned u ∧ El w' u (M.dir fs) ∧ Old w w' := by
  have HT := Lib.hid ht
  have HUN := Lib.hid HU
  have HRE := Lib.hid HREC
  have hfl := ht.tame.1
  clear ht HU HREC
  go_enter Tryz.func15, Tryz.ntmps15
  go_upto_block 0 with ((with_reducible refine HUN.out.mono ?_); rintro e w1 ⟨u, rfl, hu, o1⟩; obtain ⟨pp, cap, rfl⟩ := hu.len)
  have H := Lib.hid hu
  have HO1 := Lib.hid o1
  clear hu o1 HUN
  go_cut [6] (fun nv wx => Tl wx nv (M.names fs) ∧ Old w1 wx)
  case first =>
    go_wp2
    go_loopw [6, 7] (fun nv i wr => ∃ k : Nat, k ≤ fs.length ∧ i = .int .i64 k ∧ Tl wr nv (M.setOf ((fs.take k).map fun f => M.head1 f.1)) ∧ Old w1 wr) (fun _ i _ => fs.length - (intOf i).toNat)
    case atStart => exact ⟨0, Nat.zero_le _, rfl, Tl.nil _, Below.refl _ _⟩
    case round =>
      obtain ⟨k, hk, rfl, htl, ho⟩ := hrel
      have HO6 := Lib.hid ho
      by_cases hlt : k < fs.length
      · obtain ⟨b, off, rfl, hb, hc⟩ := (H.out.old ho).at (by intro h; rw [h] at hlt; exact absurd hlt (Nat.not_lt_zero _))
        obtain ⟨c0, _⟩ := hc k hlt
        have HHD := Lib.hid (head_any fs[k].1 (by have := (HT.out.tame.2 _ (List.getElem_mem hlt)).1; unfold maxLen; omega) wr)
        have HSET := Lib.hid (setOf_snoc fs k hlt)
        have hsl := setOf_small fs k
        clear hc hb ho
        generalize fs[k].1 = x at *
        generalize M.head1 x = n at *
        generalize M.setOf ((fs.take k).map fun f => M.head1 f.1) = l at *
        generalize decide (47 ∈ x) = b47 at *
        obtain ⟨p6, cap6, rfl⟩ := htl.len
        have HT6 := Lib.hid htl
        obtain ⟨_, hcap6, hp6⟩ := htl.caps
        clear htl
        go_upto_block 2 with ((with_reducible refine HHD.out.mono ?_); rintro e w2 ⟨rfl, hw⟩; obtain rfl := hw.symm)
        clear c0 HHD
        go_cut [10] (fun i wx => ∃ j : Nat, i = .int .i64 j ∧ wx = wr ∧ Hid (Spot l n j))
        case first =>
          go_wp2
          go_loopw [10] (fun i wq => ∃ j : Nat, j ≤ l.length ∧ i = .int .i64 j ∧ wq = wr ∧ Hid (∀ q (hq : q < l.length), q < j → M.bl l[q] n = true)) (fun i _ => l.length - (intOf i).toNat)
          case atStart => exact ⟨0, Nat.zero_le _, rfl, rfl, Lib.hid (fun j _ h => absurd h (Nat.not_lt_zero _))⟩
          case round =>
            obtain ⟨j, hj, rfl, hwq, hall⟩ := hrel
            obtain rfl := hwq.symm
            by_cases hjl : j < l.length
            · obtain ⟨b6, off6, rfl, hb6, hc6⟩ := HT6.out.at (by intro h; rw [h] at hjl; exact absurd hjl (Nat.not_lt_zero _))
              have d0 := hc6 j hjl
              have HSP := Lib.hid (show M.bl l[j] n = false → Spot l n j from fun h => ⟨hj, hall.out, fun _ => h⟩)
              have HN := Lib.hid (show M.bl l[j] n = true → ∀ q (hq : q < l.length), q < j + 1 → M.bl l[q] n = true from fun h q hq hqj => by
                by_cases he : q = j
                · subst he; exact h
                · exact hall.out q hq (by omega))
              clear hc6 hb6 hall
              generalize l[j] = y at *
              generalize hbl : M.bl y n = r at *
              cases r with
              | true =>
                have HN2 := Lib.hid (HN.out rfl)
                clear HN HSP
                go_wp2
                go_roundw
                case rel => exact ⟨j + 1, by omega, by go_num, trivial, HN2⟩
                case measure => simp [intOf]; omega
              | false =>
                have HS2 := Lib.hid (HSP.out rfl)
                clear HN HSP
                go_wp2
                go_meet
                case rel => exact ⟨j, rfl, rfl, HS2⟩
            · obtain rfl : j = l.length := by omega
              have HS2 := Lib.hid (show Spot l n l.length from ⟨Nat.le_refl _, hall.out, fun h => absurd h (Nat.lt_irrefl _)⟩)
              clear hall
              go_wp2
              go_meet
              case rel => exact ⟨l.length, rfl, rfl, HS2⟩
        case rest =>
          obtain ⟨j, rfl, hwx, hsp⟩ := hcut
          obtain rfl := hwx.symm
          have hj := hsp.out.1
          by_cases hjl : j < l.length
          · obtain ⟨b6, off6, rfl, hb, hc⟩ := HT6.out.at (by intro h; rw [h] at hjl; exact absurd hjl (Nat.not_lt_zero _))
            have c0 := hc j hjl
            clear hc
            by_cases he : l[j] = n
            · have HIN := Lib.hid (hsp.out.same hjl he)
              have e1 : (l[j] == n) = true := by rw [beq_list, decide_eq_true he]
              clear hsp he
              generalize l[j] = x at *
              go_wp2
              go_roundw
              case rel => exact ⟨k + 1, by omega, by go_num, by rw [HSET.out, HIN.out]; exact HT6.out, HO6.out⟩
              case measure => simp [intOf]; omega
            · have HIN := Lib.hid (hsp.out.other (fun _ => he))
              have e1 : (l[j] == n) = false := by rw [beq_list, decide_eq_false he]
              clear hsp he
              generalize l[j] = x at *
              have HT := Lib.hid (HT6.out.take j hj)
              have hjl2 : (l.take j).length = j := by rw [List.length_take]; omega
              have hld : (l.drop j).length ≤ l.length := by rw [List.length_drop]; omega
              have hmc : (j : Int) ≤ (cap6 : Int) := by omega
              go_wp2_with (at_builtin; refine wpList_append_texts rfl _ _ rfl wr.heap.size _ [] rfl (TOwn.nil _ _) _ (l.take j) rfl HT.out (by rw [List.length_nil]; omega) (Nat.le_refl _) ?_)
              intro v1 w3 hown1 hgrow1
              have ho3 : Old wr w3 := Old.grownRow (TOwn.nil wr.heap.size wr) (Nat.le_refl _) (Below.refl _ _) hgrow1
              have hown1' : TOwn wr.heap.size (w3.alloc (.cells #[S n] 9)) v1 (l.take j) := hown1.old (Old.alloc _ _)
              have HONE := Lib.hid (Tl.one w3 n)
              have HO3 := Lib.hid (ho3.trans (Old.alloc w3 (.cells #[S n] 9)))
              have hB1 := HO3.out.size
              clear hgrow1 hown1 HT ho3
              go_wp2_with (at_builtin; refine wpList_append_texts rfl _ _ rfl wr.heap.size _ (l.take j) rfl hown1' _ [n] rfl HONE.out (by rw [hjl2, List.length_singleton]; omega) hB1 ?_)
              intro v2 w4 hown2 hgrow2
              have ho4 : Old wr w4 := Old.grownRow hown1' (Nat.le_refl _) HO3.out hgrow2
              have HO4 := Lib.hid ho4
              have HOWN2 := Lib.hid hown2
              have hB2 := ho4.size
              have HG := Lib.hid ((HT6.out.old HO4.out).drop j hj)
              clear hown1' hgrow2 hown2 ho4 HONE HO3
              go_wp2_with (at_builtin; refine wpList_append_texts rfl _ _ rfl wr.heap.size _ (l.take j ++ [n]) rfl HOWN2.out _ (l.drop j) rfl HG.out (by rw [List.length_append, List.length_singleton, hjl2]; omega) hB2 ?_)
              intro v3 w5 hown3 hgrow3
              have HO5 := Lib.hid (Old.grownRow HOWN2.out (Nat.le_refl _) HO4.out hgrow3)
              have HOWN5 := Lib.hid hown3.tl
              clear hown3 hgrow3
              go_wp2
              go_roundw
              case rel => exact ⟨k + 1, by omega, by go_num, by rw [HSET.out, HIN.out, List.append_assoc]; exact HOWN5.out, HO6.out.trans HO5.out⟩
              case measure => simp [intOf]; omega
          · obtain rfl : j = l.length := by omega
            have HIN := Lib.hid (hsp.out.other (fun h => absurd h (Nat.lt_irrefl _)))
            clear hsp
            cases p6 with
            | none =>
              have hc0 := hp6 rfl
              subst hc0
              obtain rfl : l = [] := List.eq_nil_of_length_eq_zero (by omega)
              have HT := Lib.hid HT6.out
              have hjl2 : (([] : List (List UInt8))).length = 0 := rfl
              have hld : (([] : List (List UInt8))).length ≤ 0 := Nat.le_refl _
              have hmc : (0 : Int) ≤ (0 : Int) := by omega
              go_wp2_with (at_builtin; refine wpList_append_texts rfl _ _ rfl wr.heap.size _ [] rfl (TOwn.nil _ _) _ (([] : List (List UInt8))) rfl HT.out (by rw [List.length_nil]; omega) (Nat.le_refl _) ?_)
              intro v1 w3 hown1 hgrow1
              have ho3 : Old wr w3 := Old.grownRow (TOwn.nil wr.heap.size wr) (Nat.le_refl _) (Below.refl _ _) hgrow1
              have hown1' : TOwn wr.heap.size (w3.alloc (.cells #[S n] 9)) v1 (([] : List (List UInt8))) := hown1.old (Old.alloc _ _)
              have HONE := Lib.hid (Tl.one w3 n)
              have HO3 := Lib.hid (ho3.trans (Old.alloc w3 (.cells #[S n] 9)))
              have hB1 := HO3.out.size
              clear hgrow1 hown1 HT ho3
              go_wp2_with (at_builtin; refine wpList_append_texts rfl _ _ rfl wr.heap.size _ (([] : List (List UInt8))) rfl hown1' _ [n] rfl HONE.out (by rw [hjl2, List.length_singleton]; omega) hB1 ?_)
              intro v2 w4 hown2 hgrow2
              have ho4 : Old wr w4 := Old.grownRow hown1' (Nat.le_refl _) HO3.out hgrow2
              have HO4 := Lib.hid ho4
              have HOWN2 := Lib.hid hown2
              have hB2 := ho4.size
              have HG := Lib.hid (Tl.void w4 none 0 0 0 [] rfl (Nat.le_refl _) (fun _ => rfl))
              clear hown1' hgrow2 hown2 ho4 HONE HO3
              go_wp2_with (at_builtin; refine wpList_append_texts rfl _ _ rfl wr.heap.size _ (([] : List (List UInt8)) ++ [n]) rfl HOWN2.out _ (([] : List (List UInt8))) rfl HG.out (by rw [List.length_append, List.length_singleton, hjl2]; omega) hB2 ?_)
              intro v3 w5 hown3 hgrow3
              have HO5 := Lib.hid (Old.grownRow HOWN2.out (Nat.le_refl _) HO4.out hgrow3)
              have HOWN5 := Lib.hid hown3.tl
              clear hown3 hgrow3
              go_wp2
              go_roundw
              case rel => exact ⟨k + 1, by omega, by go_num, by rw [HSET.out, HIN.out, List.append_assoc]; exact HOWN5.out, HO6.out.trans HO5.out⟩
              case measure => simp [intOf]; omega
            | some ad =>
              have hll : (l.take l.length) = l := List.take_length
              have hdd : (l.drop l.length) = [] := List.drop_eq_nil_of_le (Nat.le_refl _)
              rw [hll, hdd] at HIN
              by_cases hce : cap6 = l.length
              · subst hce
                have HT := Lib.hid (show Tl wr _ l from by have := HT6.out.take l.length hj; rwa [hll] at this)
                have hjl2 : l.length = l.length := rfl
                have hld : ([] : List (List UInt8)).length ≤ l.length := Nat.zero_le _
                have hmc : (l.length : Int) ≤ (l.length : Int) := by omega
                go_wp2_with (at_builtin; refine wpList_append_texts rfl _ _ rfl wr.heap.size _ [] rfl (TOwn.nil _ _) _ l rfl HT.out (by rw [List.length_nil]; omega) (Nat.le_refl _) ?_)
                intro v1 w3 hown1 hgrow1
                have ho3 : Old wr w3 := Old.grownRow (TOwn.nil wr.heap.size wr) (Nat.le_refl _) (Below.refl _ _) hgrow1
                have hown1' : TOwn wr.heap.size (w3.alloc (.cells #[S n] 9)) v1 l := hown1.old (Old.alloc _ _)
                have HONE := Lib.hid (Tl.one w3 n)
                have HO3 := Lib.hid (ho3.trans (Old.alloc w3 (.cells #[S n] 9)))
                have hB1 := HO3.out.size
                clear hgrow1 hown1 HT ho3
                go_wp2_with (at_builtin; refine wpList_append_texts rfl _ _ rfl wr.heap.size _ l rfl hown1' _ [n] rfl HONE.out (by rw [List.length_singleton]; omega) hB1 ?_)
                intro v2 w4 hown2 hgrow2
                have ho4 : Old wr w4 := Old.grownRow hown1' (Nat.le_refl _) HO3.out hgrow2
                have HO4 := Lib.hid ho4
                have HOWN2 := Lib.hid hown2
                have hB2 := ho4.size
                have HG := Lib.hid (show ∀ (a' : Addr) (c' : Nat), Tl w4 (.slice (some a') 0 c') ([] : List (List UInt8)) from fun a' c' => ⟨some a', c', rfl, (fun h => by cases h), Nat.zero_le _, fun h => absurd rfl h⟩)
                clear hown1' hgrow2 hown2 ho4 HONE HO3
                go_wp2_with (at_builtin; refine wpList_append_texts rfl _ _ rfl wr.heap.size _ (l ++ [n]) rfl HOWN2.out _ ([] : List (List UInt8)) rfl (HG.out _ _) (by rw [List.length_append, List.length_singleton]; simp; omega) hB2 ?_)
                intro v3 w5 hown3 hgrow3
                have HO5 := Lib.hid (Old.grownRow HOWN2.out (Nat.le_refl _) HO4.out hgrow3)
                have HOWN5 := Lib.hid hown3.tl
                clear hown3 hgrow3
                go_wp2
                go_roundw
                case rel => exact ⟨k + 1, by omega, by go_num, by rw [HSET.out, HIN.out, List.append_assoc]; exact HOWN5.out, HO6.out.trans HO5.out⟩
                case measure => simp [intOf]; omega
              · have hlc : l.length < cap6 := by omega
                have HT := Lib.hid (show Tl wr _ l from by have := HT6.out.take l.length hj; rwa [hll] at this)
                have hjl2 : l.length = l.length := rfl
                have hld : ([] : List (List UInt8)).length ≤ l.length := Nat.zero_le _
                have hmc : (l.length : Int) ≤ (cap6 : Int) := by omega
                go_wp2_with (at_builtin; refine wpList_append_texts rfl _ _ rfl wr.heap.size _ [] rfl (TOwn.nil _ _) _ l rfl HT.out (by rw [List.length_nil]; omega) (Nat.le_refl _) ?_)
                intro v1 w3 hown1 hgrow1
                have ho3 : Old wr w3 := Old.grownRow (TOwn.nil wr.heap.size wr) (Nat.le_refl _) (Below.refl _ _) hgrow1
                have hown1' : TOwn wr.heap.size (w3.alloc (.cells #[S n] 9)) v1 l := hown1.old (Old.alloc _ _)
                have HONE := Lib.hid (Tl.one w3 n)
                have HO3 := Lib.hid (ho3.trans (Old.alloc w3 (.cells #[S n] 9)))
                have hB1 := HO3.out.size
                clear hgrow1 hown1 HT ho3
                go_wp2_with (at_builtin; refine wpList_append_texts rfl _ _ rfl wr.heap.size _ l rfl hown1' _ [n] rfl HONE.out (by rw [List.length_singleton]; omega) hB1 ?_)
                intro v2 w4 hown2 hgrow2
                have ho4 : Old wr w4 := Old.grownRow hown1' (Nat.le_refl _) HO3.out hgrow2
                have HO4 := Lib.hid ho4
                have HOWN2 := Lib.hid hown2
                have hB2 := ho4.size
                have HG := Lib.hid (show ∀ (a' : Addr) (c' : Nat), Tl w4 (.slice (some a') 0 c') ([] : List (List UInt8)) from fun a' c' => ⟨some a', c', rfl, (fun h => by cases h), Nat.zero_le _, fun h => absurd rfl h⟩)
                clear hown1' hgrow2 hown2 ho4 HONE HO3
                go_wp2_with (at_builtin; refine wpList_append_texts rfl _ _ rfl wr.heap.size _ (l ++ [n]) rfl HOWN2.out _ ([] : List (List UInt8)) rfl (HG.out _ _) (by rw [List.length_append, List.length_singleton]; simp; omega) hB2 ?_)
                intro v3 w5 hown3 hgrow3
                have HO5 := Lib.hid (Old.grownRow HOWN2.out (Nat.le_refl _) HO4.out hgrow3)
                have HOWN5 := Lib.hid hown3.tl
                clear hown3 hgrow3
                go_wp2
                go_roundw
                case rel => exact ⟨k + 1, by omega, by go_num, by rw [HSET.out, HIN.out, List.append_assoc]; exact HOWN5.out, HO6.out.trans HO5.out⟩
                case measure => simp [intOf]; omega
      · obtain rfl : k = fs.length := by omega
        rw [names_all] at htl
        go_wp2
        go_meet
        case rel => exact ⟨htl, ho⟩
  case rest =>
    obtain ⟨hnm, ho⟩ := hcut
    have hnl := M.names_len fs
    have HNM := Lib.hid hnm
    have HOC := Lib.hid ho
    obtain ⟨p6, cap6, rfl⟩ := hnm.len
    clear hnm
    go_wp2
    go_loopw [12, 13] (fun o i wr => ∃ k : Nat, k ≤ (M.names fs).length ∧ i = .int .i64 k ∧ EOwn wc.heap.size wr o (((M.names fs).take k).map (M.entry fs)) ∧ Old wc wr) (fun _ i _ => (M.names fs).length - (intOf i).toNat)
    case atStart => exact ⟨0, Nat.zero_le _, rfl, EOwn.nil _ _, Below.refl _ _⟩
    case round =>
      obtain ⟨k, hk, rfl, hown, ho2⟩ := hrel
      have HO2 := Lib.hid ho2
      clear ho2
      by_cases hlt : k < (M.names fs).length
      · have HMEM := Lib.hid (List.getElem_mem hlt)
        obtain ⟨b6, off6, rfl, hb6, hc6⟩ := (HNM.out.old HO2.out).at (by intro h; rw [h] at hlt; exact absurd hlt (Nat.not_lt_zero _))
        have c0 := hc6 k hlt
        have HTK := Lib.hid (show ((M.names fs).take (k + 1)).map (M.entry fs) = ((M.names fs).take k).map (M.entry fs) ++ [M.entry fs (M.names fs)[k]] from by rw [List.take_succ_eq_append_getElem hlt, List.map_append]; rfl)
        have hacc : (((M.names fs).take k).map (M.entry fs)).length ≤ 2000000 := by rw [List.length_map, List.length_take]; omega
        have HFL := Lib.hid (H.out.old (HOC.out.trans HO2.out))
        have HGT := Lib.hid (rget_any _ fs (M.names fs)[k] wr HFL.out (by unfold maxLen; omega))
        have hnn := name_tame HT.out.tame HMEM.out
        have hgs := get_less HT.out (M.names fs)[k]
        have HAP := Lib.hid (fun (d : Bool) (g : List UInt8) (w3 : World) (h : Old wr.drew w3) => append_entry (M.names fs)[k] d g (EOwn.old hown ((Old.drewN wr 1).trans h)) (Nat.le_refl _) (Nat.le_trans HO2.out.size h.size) (HO2.out.trans ((Old.drewN wr 1).trans h)) hacc)
        clear hc6 hown hacc
        cases hgt : (M.get fs (M.names fs)[k]).2 with
        | true =>
          have HENT := Lib.hid (entry_file (show M.get fs (M.names fs)[k] = ((M.get fs (M.names fs)[k]).1, true) from Prod.ext rfl hgt))
          rw [hgt] at HGT
          have HSM := Lib.hid (fun w3 => rsum_any hp ⟨⟨(M.get fs (M.names fs)[k]).1⟩⟩ (by rw [size_mk]; omega) w3)
          clear hgt hgs HRE HMEM
          generalize (M.get fs (M.names fs)[k]).1 = dt at *
          generalize hnk : (M.names fs)[k] = n at *
          clear hnk
          go_upto_region 21 with ((with_reducible refine HGT.out.mono ?_); rintro e w3 ⟨rfl, hw⟩; obtain rfl := hw.symm)
          refine wp_region_any (by kernel_rfl) ?_
          change wpAny _ _ _ _ _ _ _ (World.drew _)
          refine wpAny_take (i := 0) (v := ?_) rfl (by kernel_rfl) (by kernel_rfl) (by kernel_rfl) (fun _ _ _ h => h) (Or.inl ⟨by kernel_rfl, ?_⟩) ?_
          rotate_left
          · intro w'; go_simp; try with_reducible rfl
          refine wpAny_take (i := 1) (v := ?_) rfl (by kernel_rfl) (by kernel_rfl) (by kernel_rfl) (fun _ _ _ h => h) (Or.inl ⟨by kernel_rfl, ?_⟩) ?_
          rotate_left
          · intro w'; go_simp; try with_reducible rfl
          refine wpAny_take (i := 2) (v := ?_) rfl (by kernel_rfl) (by kernel_rfl) (by kernel_rfl) (fun _ _ _ h => h) (Or.inl ⟨by kernel_rfl, ?_⟩) ?_
          rotate_left
          · intro w'; go_simp; try with_reducible rfl
          refine wpAny_take (i := 5) (v := ?_) rfl (by kernel_rfl) (by kernel_rfl) (by kernel_rfl) (fun _ _ _ h => h) (Or.inl ⟨by kernel_rfl, ?_⟩) ?_
          rotate_left
          · intro w'; go_simp; try with_reducible rfl
          refine wpAny_ready (rs := [3, 6]) (by kernel_rfl) (by simp) ?_
          refine AllReady.cons rfl (fun K hK => ?_) (AllReady.cons rfl (fun K hK => ?_) AllReady.nil)
          · skip
            go_simp
            refine hK _ _ ?_
            clear hK K
            refine wpAny_ready (rs := [4, 6]) (by kernel_rfl) (by simp) ?_
            refine AllReady.cons rfl (fun K hK => ?_) (AllReady.cons rfl (fun K hK => ?_) AllReady.nil)
            · skip
              go_simp
              refine hK _ _ ?_
              clear hK K
              refine wpAny_ready (rs := [6]) (by kernel_rfl) (by simp) ?_
              refine AllReady.cons rfl (fun K hK => ?_) AllReady.nil
              go_simp
              go_wp2_with ((with_reducible refine (HSM.out _).mono ?_); rintro e w3 ⟨rfl, o3⟩)
              have c3 := (o3.cell (p := ⟨b6, off6 + k, none⟩) hb6).trans c0
              obtain ⟨v', w5, hrun, hown5, ho5⟩ := HAP.out false _ w3 o3
              refine wpAny_take (i := 7) (v := ?_) rfl (by kernel_rfl) (by kernel_rfl) (by kernel_rfl) (fun _ _ _ h => h) (Or.inl ⟨by kernel_rfl, ?_⟩) ?_
              rotate_left
              · intro w'; go_simp; try with_reducible rfl
              refine wpAny_ready (rs := [8]) (by kernel_rfl) (by simp) ?_
              refine AllReady.cons rfl (fun K hK => ?_) AllReady.nil
              go_simp
              refine hK _ _ ?_
              clear hK K
              refine wpAny_ready (rs := [9]) (by kernel_rfl) (by simp) ?_
              refine AllReady.cons rfl (fun K hK => ?_) AllReady.nil
              refine step_append_run rfl _ _ _ _ rfl _ _ rfl rfl _ _ hrun ?_
              refine hK _ _ ?_
              clear hK K
              refine wpAny_take (i := 10) (v := ?_) rfl (by kernel_rfl) (by kernel_rfl) (by kernel_rfl) (fun _ _ _ h => h) (Or.inl ⟨by kernel_rfl, ?_⟩) ?_
              rotate_left
              · intro w'; go_simp; try with_reducible rfl
              refine wpAny_done (by kernel_rfl) ?_ _
              go_simp
              go_wp2
              go_roundw
              case rel => exact ⟨k + 1, by omega, by go_num, by rw [HTK.out, HENT.out]; exact hown5, ho5⟩
              case measure => simp [intOf]; omega
            · skip
              go_simp
              go_wp2_with ((with_reducible refine (HSM.out _).mono ?_); rintro e w3 ⟨rfl, o3⟩)
              have c3 := (o3.cell (p := ⟨b6, off6 + k, none⟩) hb6).trans c0
              obtain ⟨v', w5, hrun, hown5, ho5⟩ := HAP.out false _ w3 o3
              refine wpAny_ready (rs := [4]) (by kernel_rfl) (by simp) ?_
              refine AllReady.cons rfl (fun K hK => ?_) AllReady.nil
              go_simp
              refine hK _ _ ?_
              clear hK K
              refine wpAny_take (i := 7) (v := ?_) rfl (by kernel_rfl) (by kernel_rfl) (by kernel_rfl) (fun _ _ _ h => h) (Or.inl ⟨by kernel_rfl, ?_⟩) ?_
              rotate_left
              · intro w'; go_simp; try with_reducible rfl
              refine wpAny_ready (rs := [8]) (by kernel_rfl) (by simp) ?_
              refine AllReady.cons rfl (fun K hK => ?_) AllReady.nil
              go_simp
              refine hK _ _ ?_
              clear hK K
              refine wpAny_ready (rs := [9]) (by kernel_rfl) (by simp) ?_
              refine AllReady.cons rfl (fun K hK => ?_) AllReady.nil
              refine step_append_run rfl _ _ _ _ rfl _ _ rfl rfl _ _ hrun ?_
              refine hK _ _ ?_
              clear hK K
              refine wpAny_take (i := 10) (v := ?_) rfl (by kernel_rfl) (by kernel_rfl) (by kernel_rfl) (fun _ _ _ h => h) (Or.inl ⟨by kernel_rfl, ?_⟩) ?_
              rotate_left
              · intro w'; go_simp; try with_reducible rfl
              refine wpAny_done (by kernel_rfl) ?_ _
              go_simp
              go_wp2
              go_roundw
              case rel => exact ⟨k + 1, by omega, by go_num, by rw [HTK.out, HENT.out]; exact hown5, ho5⟩
              case measure => simp [intOf]; omega
          · skip
            go_simp
            go_wp2_with ((with_reducible refine (HSM.out _).mono ?_); rintro e w3 ⟨rfl, o3⟩)
            have c3 := (o3.cell (p := ⟨b6, off6 + k, none⟩) hb6).trans c0
            obtain ⟨v', w5, hrun, hown5, ho5⟩ := HAP.out false _ w3 o3
            refine wpAny_ready (rs := [3]) (by kernel_rfl) (by simp) ?_
            refine AllReady.cons rfl (fun K hK => ?_) AllReady.nil
            go_simp
            refine hK _ _ ?_
            clear hK K
            refine wpAny_ready (rs := [4]) (by kernel_rfl) (by simp) ?_
            refine AllReady.cons rfl (fun K hK => ?_) AllReady.nil
            go_simp
            refine hK _ _ ?_
            clear hK K
            refine wpAny_take (i := 7) (v := ?_) rfl (by kernel_rfl) (by kernel_rfl) (by kernel_rfl) (fun _ _ _ h => h) (Or.inl ⟨by kernel_rfl, ?_⟩) ?_
            rotate_left
            · intro w'; go_simp; try with_reducible rfl
            refine wpAny_ready (rs := [8]) (by kernel_rfl) (by simp) ?_
            refine AllReady.cons rfl (fun K hK => ?_) AllReady.nil
            go_simp
            refine hK _ _ ?_
            clear hK K
            refine wpAny_ready (rs := [9]) (by kernel_rfl) (by simp) ?_
            refine AllReady.cons rfl (fun K hK => ?_) AllReady.nil
            refine step_append_run rfl _ _ _ _ rfl _ _ rfl rfl _ _ hrun ?_
            refine hK _ _ ?_
            clear hK K
            refine wpAny_take (i := 10) (v := ?_) rfl (by kernel_rfl) (by kernel_rfl) (by kernel_rfl) (fun _ _ _ h => h) (Or.inl ⟨by kernel_rfl, ?_⟩) ?_
            rotate_left
            · intro w'; go_simp; try with_reducible rfl
            refine wpAny_done (by kernel_rfl) ?_ _
            go_simp
            go_wp2
            go_roundw
            case rel => exact ⟨k + 1, by omega, by go_num, by rw [HTK.out, HENT.out]; exact hown5, ho5⟩
            case measure => simp [intOf]; omega
        | false =>
          have HENT := Lib.hid (entry_dir (show M.get fs (M.names fs)[k] = ((M.get fs (M.names fs)[k]).1, false) from Prod.ext rfl hgt))
          rw [hgt] at HGT
          have HUD := Lib.hid (runder_any _ fs (M.names fs)[k] wr.drew HFL.out HT.out.tame.alls (by omega))
          have HDG := Lib.hid (fun (w1 : World) (v1 : Value) (hx : Fl w1 v1 (M.under fs (M.names fs)[k])) => HRE.out (M.names fs)[k] HMEM.out w1 v1 hx)
          clear hgt hgs HRE HMEM
          generalize (M.get fs (M.names fs)[k]).1 = dt at *
          generalize hnk : (M.names fs)[k] = n at *
          clear hnk
          go_upto_region 22 with ((with_reducible refine HGT.out.mono ?_); rintro e w3 ⟨rfl, hw⟩; obtain rfl := hw.symm)
          refine wp_region_any (by kernel_rfl) ?_
          change wpAny _ _ _ _ _ _ _ (World.drew _)
          refine wpAny_take (i := 0) (v := ?_) rfl (by kernel_rfl) (by kernel_rfl) (by kernel_rfl) (fun _ _ _ h => h) (Or.inl ⟨by kernel_rfl, ?_⟩) ?_
          rotate_left
          · intro w'; go_simp; try with_reducible rfl
          refine wpAny_take (i := 1) (v := ?_) rfl (by kernel_rfl) (by kernel_rfl) (by kernel_rfl) (fun _ _ _ h => h) (Or.inl ⟨by kernel_rfl, ?_⟩) ?_
          rotate_left
          · intro w'; go_simp; try with_reducible rfl
          refine wpAny_take (i := 2) (v := ?_) rfl (by kernel_rfl) (by kernel_rfl) (by kernel_rfl) (fun _ _ _ h => h) (Or.inl ⟨by kernel_rfl, ?_⟩) ?_
          rotate_left
          · intro w'; go_simp; try with_reducible rfl
          refine wpAny_take (i := 5) (v := ?_) rfl (by kernel_rfl) (by kernel_rfl) (by kernel_rfl) (fun _ _ _ h => h) (Or.inl ⟨by kernel_rfl, ?_⟩) ?_
          rotate_left
          · intro w'; go_simp; try with_reducible rfl
          refine wpAny_take (i := 6) (v := ?_) rfl (by kernel_rfl) (by kernel_rfl) (by kernel_rfl) (fun _ _ _ h => h) (Or.inl ⟨by kernel_rfl, ?_⟩) ?_
          rotate_left
          · intro w'; go_simp; try with_reducible rfl
          refine wpAny_take (i := 7) (v := ?_) rfl (by kernel_rfl) (by kernel_rfl) (by kernel_rfl) (fun _ _ _ h => h) (Or.inl ⟨by kernel_rfl, ?_⟩) ?_
          rotate_left
          · intro w'; go_simp; try with_reducible rfl
          refine wpAny_ready (rs := [3, 8]) (by kernel_rfl) (by simp) ?_
          refine AllReady.cons rfl (fun K hK => ?_) (AllReady.cons rfl (fun K hK => ?_) AllReady.nil)
          · skip
            go_simp
            refine hK _ _ ?_
            clear hK K
            refine wpAny_ready (rs := [4, 8]) (by kernel_rfl) (by simp) ?_
            refine AllReady.cons rfl (fun K hK => ?_) (AllReady.cons rfl (fun K hK => ?_) AllReady.nil)
            · skip
              go_simp
              refine hK _ _ ?_
              clear hK K
              refine wpAny_ready (rs := [8]) (by kernel_rfl) (by simp) ?_
              refine AllReady.cons rfl (fun K hK => ?_) AllReady.nil
              go_simp
              refine hK _ _ ?_
              clear hK K
              refine wpAny_ready (rs := [9]) (by kernel_rfl) (by simp) ?_
              refine AllReady.cons rfl (fun K hK => ?_) AllReady.nil
              go_simp
              refine hK _ _ ?_
              clear hK K
              refine wpAny_ready (rs := [10]) (by kernel_rfl) (by simp) ?_
              refine AllReady.cons rfl (fun K hK => ?_) AllReady.nil
              go_simp
              go_wp2_with ((with_reducible refine HUD.out.mono ?_); rintro e w3 ⟨u3, rfl, hu3, o3⟩)
              have c3 := (o3.cell (p := ⟨b6, off6 + k, none⟩) hb6).trans c0
              have hb63 : b6 < w3.heap.size := Nat.lt_of_lt_of_le hb6 o3.size
              refine wpAny_ready (rs := [11]) (by kernel_rfl) (by simp) ?_
              refine AllReady.cons rfl (fun K hK => ?_) AllReady.nil
              go_simp
              go_wp2_with ((with_reducible refine (HDG.out w3 u3 hu3.fl).mono ?_); rintro e w4 ⟨rfl, o4⟩)
              have c4 := (o4.cell (p := ⟨b6, off6 + k, none⟩) hb63).trans c3
              obtain ⟨v', w5, hrun, hown5, ho5⟩ := HAP.out true _ w4 (o3.trans o4)
              refine wpAny_take (i := 12) (v := ?_) rfl (by kernel_rfl) (by kernel_rfl) (by kernel_rfl) (fun _ _ _ h => h) (Or.inl ⟨by kernel_rfl, ?_⟩) ?_
              rotate_left
              · intro w'; go_simp; try with_reducible rfl
              refine wpAny_ready (rs := [13]) (by kernel_rfl) (by simp) ?_
              refine AllReady.cons rfl (fun K hK => ?_) AllReady.nil
              go_simp
              refine hK _ _ ?_
              clear hK K
              refine wpAny_ready (rs := [14]) (by kernel_rfl) (by simp) ?_
              refine AllReady.cons rfl (fun K hK => ?_) AllReady.nil
              refine step_append_run rfl _ _ _ _ rfl _ _ rfl rfl _ _ hrun ?_
              refine hK _ _ ?_
              clear hK K
              refine wpAny_take (i := 15) (v := ?_) rfl (by kernel_rfl) (by kernel_rfl) (by kernel_rfl) (fun _ _ _ h => h) (Or.inl ⟨by kernel_rfl, ?_⟩) ?_
              rotate_left
              · intro w'; go_simp; try with_reducible rfl
              refine wpAny_done (by kernel_rfl) ?_ _
              go_simp
              go_wp2
              go_roundw
              case rel => exact ⟨k + 1, by omega, by go_num, by rw [HTK.out, HENT.out]; exact hown5, ho5⟩
              case measure => simp [intOf]; omega
            · skip
              go_simp
              refine hK _ _ ?_
              clear hK K
              refine wpAny_ready (rs := [4, 9]) (by kernel_rfl) (by simp) ?_
              refine AllReady.cons rfl (fun K hK => ?_) (AllReady.cons rfl (fun K hK => ?_) AllReady.nil)
              · skip
                go_simp
                refine hK _ _ ?_
                clear hK K
                refine wpAny_ready (rs := [9]) (by kernel_rfl) (by simp) ?_
                refine AllReady.cons rfl (fun K hK => ?_) AllReady.nil
                go_simp
                refine hK _ _ ?_
                clear hK K
                refine wpAny_ready (rs := [10]) (by kernel_rfl) (by simp) ?_
                refine AllReady.cons rfl (fun K hK => ?_) AllReady.nil
                go_simp
                go_wp2_with ((with_reducible refine HUD.out.mono ?_); rintro e w3 ⟨u3, rfl, hu3, o3⟩)
                have c3 := (o3.cell (p := ⟨b6, off6 + k, none⟩) hb6).trans c0
                have hb63 : b6 < w3.heap.size := Nat.lt_of_lt_of_le hb6 o3.size
                refine wpAny_ready (rs := [11]) (by kernel_rfl) (by simp) ?_
                refine AllReady.cons rfl (fun K hK => ?_) AllReady.nil
                go_simp
                go_wp2_with ((with_reducible refine (HDG.out w3 u3 hu3.fl).mono ?_); rintro e w4 ⟨rfl, o4⟩)
                have c4 := (o4.cell (p := ⟨b6, off6 + k, none⟩) hb63).trans c3
                obtain ⟨v', w5, hrun, hown5, ho5⟩ := HAP.out true _ w4 (o3.trans o4)
                refine wpAny_take (i := 12) (v := ?_) rfl (by kernel_rfl) (by kernel_rfl) (by kernel_rfl) (fun _ _ _ h => h) (Or.inl ⟨by kernel_rfl, ?_⟩) ?_
                rotate_left
                · intro w'; go_simp; try with_reducible rfl
                refine wpAny_ready (rs := [13]) (by kernel_rfl) (by simp) ?_
                refine AllReady.cons rfl (fun K hK => ?_) AllReady.nil
                go_simp
                refine hK _ _ ?_
                clear hK K
                refine wpAny_ready (rs := [14]) (by kernel_rfl) (by simp) ?_
                refine AllReady.cons rfl (fun K hK => ?_) AllReady.nil
                refine step_append_run rfl _ _ _ _ rfl _ _ rfl rfl _ _ hrun ?_
                refine hK _ _ ?_
                clear hK K
                refine wpAny_take (i := 15) (v := ?_) rfl (by kernel_rfl) (by kernel_rfl) (by kernel_rfl) (fun _ _ _ h => h) (Or.inl ⟨by kernel_rfl, ?_⟩) ?_
                rotate_left
                · intro w'; go_simp; try with_reducible rfl
                refine wpAny_done (by kernel_rfl) ?_ _
                go_simp
                go_wp2
                go_roundw
                case rel => exact ⟨k + 1, by omega, by go_num, by rw [HTK.out, HENT.out]; exact hown5, ho5⟩
                case measure => simp [intOf]; omega
              · skip
                go_simp
                refine hK _ _ ?_
                clear hK K
                refine wpAny_ready (rs := [4, 10]) (by kernel_rfl) (by simp) ?_
                refine AllReady.cons rfl (fun K hK => ?_) (AllReady.cons rfl (fun K hK => ?_) AllReady.nil)
                · skip
                  go_simp
                  refine hK _ _ ?_
                  clear hK K
                  refine wpAny_ready (rs := [10]) (by kernel_rfl) (by simp) ?_
                  refine AllReady.cons rfl (fun K hK => ?_) AllReady.nil
                  go_simp
                  go_wp2_with ((with_reducible refine HUD.out.mono ?_); rintro e w3 ⟨u3, rfl, hu3, o3⟩)
                  have c3 := (o3.cell (p := ⟨b6, off6 + k, none⟩) hb6).trans c0
                  have hb63 : b6 < w3.heap.size := Nat.lt_of_lt_of_le hb6 o3.size
                  refine wpAny_ready (rs := [11]) (by kernel_rfl) (by simp) ?_
                  refine AllReady.cons rfl (fun K hK => ?_) AllReady.nil
                  go_simp
                  go_wp2_with ((with_reducible refine (HDG.out w3 u3 hu3.fl).mono ?_); rintro e w4 ⟨rfl, o4⟩)
                  have c4 := (o4.cell (p := ⟨b6, off6 + k, none⟩) hb63).trans c3
                  obtain ⟨v', w5, hrun, hown5, ho5⟩ := HAP.out true _ w4 (o3.trans o4)
                  refine wpAny_take (i := 12) (v := ?_) rfl (by kernel_rfl) (by kernel_rfl) (by kernel_rfl) (fun _ _ _ h => h) (Or.inl ⟨by kernel_rfl, ?_⟩) ?_
                  rotate_left
                  · intro w'; go_simp; try with_reducible rfl
                  refine wpAny_ready (rs := [13]) (by kernel_rfl) (by simp) ?_
                  refine AllReady.cons rfl (fun K hK => ?_) AllReady.nil
                  go_simp
                  refine hK _ _ ?_
                  clear hK K
                  refine wpAny_ready (rs := [14]) (by kernel_rfl) (by simp) ?_
                  refine AllReady.cons rfl (fun K hK => ?_) AllReady.nil
                  refine step_append_run rfl _ _ _ _ rfl _ _ rfl rfl _ _ hrun ?_
                  refine hK _ _ ?_
                  clear hK K
                  refine wpAny_take (i := 15) (v := ?_) rfl (by kernel_rfl) (by kernel_rfl) (by kernel_rfl) (fun _ _ _ h => h) (Or.inl ⟨by kernel_rfl, ?_⟩) ?_
                  rotate_left
                  · intro w'; go_simp; try with_reducible rfl
                  refine wpAny_done (by kernel_rfl) ?_ _
                  go_simp
                  go_wp2
                  go_roundw
                  case rel => exact ⟨k + 1, by omega, by go_num, by rw [HTK.out, HENT.out]; exact hown5, ho5⟩
                  case measure => simp [intOf]; omega
                · skip
                  go_simp
                  go_wp2_with ((with_reducible refine HUD.out.mono ?_); rintro e w3 ⟨u3, rfl, hu3, o3⟩)
                  have c3 := (o3.cell (p := ⟨b6, off6 + k, none⟩) hb6).trans c0
                  have hb63 : b6 < w3.heap.size := Nat.lt_of_lt_of_le hb6 o3.size
                  refine wpAny_ready (rs := [4, 11]) (by kernel_rfl) (by simp) ?_
                  refine AllReady.cons rfl (fun K hK => ?_) (AllReady.cons rfl (fun K hK => ?_) AllReady.nil)
                  · skip
                    go_simp
                    refine hK _ _ ?_
                    clear hK K
                    refine wpAny_ready (rs := [11]) (by kernel_rfl) (by simp) ?_
                    refine AllReady.cons rfl (fun K hK => ?_) AllReady.nil
                    go_simp
                    go_wp2_with ((with_reducible refine (HDG.out w3 u3 hu3.fl).mono ?_); rintro e w4 ⟨rfl, o4⟩)
                    have c4 := (o4.cell (p := ⟨b6, off6 + k, none⟩) hb63).trans c3
                    obtain ⟨v', w5, hrun, hown5, ho5⟩ := HAP.out true _ w4 (o3.trans o4)
                    refine wpAny_take (i := 12) (v := ?_) rfl (by kernel_rfl) (by kernel_rfl) (by kernel_rfl) (fun _ _ _ h => h) (Or.inl ⟨by kernel_rfl, ?_⟩) ?_
                    rotate_left
                    · intro w'; go_simp; try with_reducible rfl
                    refine wpAny_ready (rs := [13]) (by kernel_rfl) (by simp) ?_
                    refine AllReady.cons rfl (fun K hK => ?_) AllReady.nil
                    go_simp
                    refine hK _ _ ?_
                    clear hK K
                    refine wpAny_ready (rs := [14]) (by kernel_rfl) (by simp) ?_
                    refine AllReady.cons rfl (fun K hK => ?_) AllReady.nil
                    refine step_append_run rfl _ _ _ _ rfl _ _ rfl rfl _ _ hrun ?_
                    refine hK _ _ ?_
                    clear hK K
                    refine wpAny_take (i := 15) (v := ?_) rfl (by kernel_rfl) (by kernel_rfl) (by kernel_rfl) (fun _ _ _ h => h) (Or.inl ⟨by kernel_rfl, ?_⟩) ?_
                    rotate_left
                    · intro w'; go_simp; try with_reducible rfl
                    refine wpAny_done (by kernel_rfl) ?_ _
                    go_simp
                    go_wp2
                    go_roundw
                    case rel => exact ⟨k + 1, by omega, by go_num, by rw [HTK.out, HENT.out]; exact hown5, ho5⟩
                    case measure => simp [intOf]; omega
                  · skip
                    go_simp
                    go_wp2_with ((with_reducible refine (HDG.out w3 u3 hu3.fl).mono ?_); rintro e w4 ⟨rfl, o4⟩)
                    have c4 := (o4.cell (p := ⟨b6, off6 + k, none⟩) hb63).trans c3
                    obtain ⟨v', w5, hrun, hown5, ho5⟩ := HAP.out true _ w4 (o3.trans o4)
                    refine wpAny_ready (rs := [4]) (by kernel_rfl) (by simp) ?_
                    refine AllReady.cons rfl (fun K hK => ?_) AllReady.nil
                    go_simp
                    refine hK _ _ ?_
                    clear hK K
                    refine wpAny_take (i := 12) (v := ?_) rfl (by kernel_rfl) (by kernel_rfl) (by kernel_rfl) (fun _ _ _ h => h) (Or.inl ⟨by kernel_rfl, ?_⟩) ?_
                    rotate_left
                    · intro w'; go_simp; try with_reducible rfl
                    refine wpAny_ready (rs := [13]) (by kernel_rfl) (by simp) ?_
                    refine AllReady.cons rfl (fun K hK => ?_) AllReady.nil
                    go_simp
                    refine hK _ _ ?_
                    clear hK K
                    refine wpAny_ready (rs := [14]) (by kernel_rfl) (by simp) ?_
                    refine AllReady.cons rfl (fun K hK => ?_) AllReady.nil
                    refine step_append_run rfl _ _ _ _ rfl _ _ rfl rfl _ _ hrun ?_
                    refine hK _ _ ?_
                    clear hK K
                    refine wpAny_take (i := 15) (v := ?_) rfl (by kernel_rfl) (by kernel_rfl) (by kernel_rfl) (fun _ _ _ h => h) (Or.inl ⟨by kernel_rfl, ?_⟩) ?_
                    rotate_left
                    · intro w'; go_simp; try with_reducible rfl
                    refine wpAny_done (by kernel_rfl) ?_ _
                    go_simp
                    go_wp2
                    go_roundw
                    case rel => exact ⟨k + 1, by omega, by go_num, by rw [HTK.out, HENT.out]; exact hown5, ho5⟩
                    case measure => simp [intOf]; omega
          · skip
            go_simp
            refine hK _ _ ?_
            clear hK K
            refine wpAny_ready (rs := [3, 9]) (by kernel_rfl) (by simp) ?_
            refine AllReady.cons rfl (fun K hK => ?_) (AllReady.cons rfl (fun K hK => ?_) AllReady.nil)
            · skip
              go_simp
              refine hK _ _ ?_
              clear hK K
              refine wpAny_ready (rs := [4, 9]) (by kernel_rfl) (by simp) ?_
              refine AllReady.cons rfl (fun K hK => ?_) (AllReady.cons rfl (fun K hK => ?_) AllReady.nil)
              · skip
                go_simp
                refine hK _ _ ?_
                clear hK K
                refine wpAny_ready (rs := [9]) (by kernel_rfl) (by simp) ?_
                refine AllReady.cons rfl (fun K hK => ?_) AllReady.nil
                go_simp
                refine hK _ _ ?_
                clear hK K
                refine wpAny_ready (rs := [10]) (by kernel_rfl) (by simp) ?_
                refine AllReady.cons rfl (fun K hK => ?_) AllReady.nil
                go_simp
                go_wp2_with ((with_reducible refine HUD.out.mono ?_); rintro e w3 ⟨u3, rfl, hu3, o3⟩)
                have c3 := (o3.cell (p := ⟨b6, off6 + k, none⟩) hb6).trans c0
                have hb63 : b6 < w3.heap.size := Nat.lt_of_lt_of_le hb6 o3.size
                refine wpAny_ready (rs := [11]) (by kernel_rfl) (by simp) ?_
                refine AllReady.cons rfl (fun K hK => ?_) AllReady.nil
                go_simp
                go_wp2_with ((with_reducible refine (HDG.out w3 u3 hu3.fl).mono ?_); rintro e w4 ⟨rfl, o4⟩)
                have c4 := (o4.cell (p := ⟨b6, off6 + k, none⟩) hb63).trans c3
                obtain ⟨v', w5, hrun, hown5, ho5⟩ := HAP.out true _ w4 (o3.trans o4)
                refine wpAny_take (i := 12) (v := ?_) rfl (by kernel_rfl) (by kernel_rfl) (by kernel_rfl) (fun _ _ _ h => h) (Or.inl ⟨by kernel_rfl, ?_⟩) ?_
                rotate_left
                · intro w'; go_simp; try with_reducible rfl
                refine wpAny_ready (rs := [13]) (by kernel_rfl) (by simp) ?_
                refine AllReady.cons rfl (fun K hK => ?_) AllReady.nil
                go_simp
                refine hK _ _ ?_
                clear hK K
                refine wpAny_ready (rs := [14]) (by kernel_rfl) (by simp) ?_
                refine AllReady.cons rfl (fun K hK => ?_) AllReady.nil
                refine step_append_run rfl _ _ _ _ rfl _ _ rfl rfl _ _ hrun ?_
                refine hK _ _ ?_
                clear hK K
                refine wpAny_take (i := 15) (v := ?_) rfl (by kernel_rfl) (by kernel_rfl) (by kernel_rfl) (fun _ _ _ h => h) (Or.inl ⟨by kernel_rfl, ?_⟩) ?_
                rotate_left
                · intro w'; go_simp; try with_reducible rfl
                refine wpAny_done (by kernel_rfl) ?_ _
                go_simp
                go_wp2
                go_roundw
                case rel => exact ⟨k + 1, by omega, by go_num, by rw [HTK.out, HENT.out]; exact hown5, ho5⟩
                case measure => simp [intOf]; omega
              · skip
                go_simp
                refine hK _ _ ?_
                clear hK K
                refine wpAny_ready (rs := [4, 10]) (by kernel_rfl) (by simp) ?_
                refine AllReady.cons rfl (fun K hK => ?_) (AllReady.cons rfl (fun K hK => ?_) AllReady.nil)
                · skip
                  go_simp
                  refine hK _ _ ?_
                  clear hK K
                  refine wpAny_ready (rs := [10]) (by kernel_rfl) (by simp) ?_
                  refine AllReady.cons rfl (fun K hK => ?_) AllReady.nil
                  go_simp
                  go_wp2_with ((with_reducible refine HUD.out.mono ?_); rintro e w3 ⟨u3, rfl, hu3, o3⟩)
                  have c3 := (o3.cell (p := ⟨b6, off6 + k, none⟩) hb6).trans c0
                  have hb63 : b6 < w3.heap.size := Nat.lt_of_lt_of_le hb6 o3.size
                  refine wpAny_ready (rs := [11]) (by kernel_rfl) (by simp) ?_
                  refine AllReady.cons rfl (fun K hK => ?_) AllReady.nil
                  go_simp
                  go_wp2_with ((with_reducible refine (HDG.out w3 u3 hu3.fl).mono ?_); rintro e w4 ⟨rfl, o4⟩)
                  have c4 := (o4.cell (p := ⟨b6, off6 + k, none⟩) hb63).trans c3
                  obtain ⟨v', w5, hrun, hown5, ho5⟩ := HAP.out true _ w4 (o3.trans o4)
                  refine wpAny_take (i := 12) (v := ?_) rfl (by kernel_rfl) (by kernel_rfl) (by kernel_rfl) (fun _ _ _ h => h) (Or.inl ⟨by kernel_rfl, ?_⟩) ?_
                  rotate_left
                  · intro w'; go_simp; try with_reducible rfl
                  refine wpAny_ready (rs := [13]) (by kernel_rfl) (by simp) ?_
                  refine AllReady.cons rfl (fun K hK => ?_) AllReady.nil
                  go_simp
                  refine hK _ _ ?_
                  clear hK K
                  refine wpAny_ready (rs := [14]) (by kernel_rfl) (by simp) ?_
                  refine AllReady.cons rfl (fun K hK => ?_) AllReady.nil
                  refine step_append_run rfl _ _ _ _ rfl _ _ rfl rfl _ _ hrun ?_
                  refine hK _ _ ?_
                  clear hK K
                  refine wpAny_take (i := 15) (v := ?_) rfl (by kernel_rfl) (by kernel_rfl) (by kernel_rfl) (fun _ _ _ h => h) (Or.inl ⟨by kernel_rfl, ?_⟩) ?_
                  rotate_left
                  · intro w'; go_simp; try with_reducible rfl
                  refine wpAny_done (by kernel_rfl) ?_ _
                  go_simp
                  go_wp2
                  go_roundw
                  case rel => exact ⟨k + 1, by omega, by go_num, by rw [HTK.out, HENT.out]; exact hown5, ho5⟩
                  case measure => simp [intOf]; omega
                · skip
                  go_simp
                  go_wp2_with ((with_reducible refine HUD.out.mono ?_); rintro e w3 ⟨u3, rfl, hu3, o3⟩)
                  have c3 := (o3.cell (p := ⟨b6, off6 + k, none⟩) hb6).trans c0
                  have hb63 : b6 < w3.heap.size := Nat.lt_of_lt_of_le hb6 o3.size
                  refine wpAny_ready (rs := [4, 11]) (by kernel_rfl) (by simp) ?_
                  refine AllReady.cons rfl (fun K hK => ?_) (AllReady.cons rfl (fun K hK => ?_) AllReady.nil)
                  · skip
                    go_simp
                    refine hK _ _ ?_
                    clear hK K
                    refine wpAny_ready (rs := [11]) (by kernel_rfl) (by simp) ?_
                    refine AllReady.cons rfl (fun K hK => ?_) AllReady.nil
                    go_simp
                    go_wp2_with ((with_reducible refine (HDG.out w3 u3 hu3.fl).mono ?_); rintro e w4 ⟨rfl, o4⟩)
                    have c4 := (o4.cell (p := ⟨b6, off6 + k, none⟩) hb63).trans c3
                    obtain ⟨v', w5, hrun, hown5, ho5⟩ := HAP.out true _ w4 (o3.trans o4)
                    refine wpAny_take (i := 12) (v := ?_) rfl (by kernel_rfl) (by kernel_rfl) (by kernel_rfl) (fun _ _ _ h => h) (Or.inl ⟨by kernel_rfl, ?_⟩) ?_
                    rotate_left
                    · intro w'; go_simp; try with_reducible rfl
                    refine wpAny_ready (rs := [13]) (by kernel_rfl) (by simp) ?_
                    refine AllReady.cons rfl (fun K hK => ?_) AllReady.nil
                    go_simp
                    refine hK _ _ ?_
                    clear hK K
                    refine wpAny_ready (rs := [14]) (by kernel_rfl) (by simp) ?_
                    refine AllReady.cons rfl (fun K hK => ?_) AllReady.nil
                    refine step_append_run rfl _ _ _ _ rfl _ _ rfl rfl _ _ hrun ?_
                    refine hK _ _ ?_
                    clear hK K
                    refine wpAny_take (i := 15) (v := ?_) rfl (by kernel_rfl) (by kernel_rfl) (by kernel_rfl) (fun _ _ _ h => h) (Or.inl ⟨by kernel_rfl, ?_⟩) ?_
                    rotate_left
                    · intro w'; go_simp; try with_reducible rfl
                    refine wpAny_done (by kernel_rfl) ?_ _
                    go_simp
                    go_wp2
                    go_roundw
                    case rel => exact ⟨k + 1, by omega, by go_num, by rw [HTK.out, HENT.out]; exact hown5, ho5⟩
                    case measure => simp [intOf]; omega
                  · skip
                    go_simp
                    go_wp2_with ((with_reducible refine (HDG.out w3 u3 hu3.fl).mono ?_); rintro e w4 ⟨rfl, o4⟩)
                    have c4 := (o4.cell (p := ⟨b6, off6 + k, none⟩) hb63).trans c3
                    obtain ⟨v', w5, hrun, hown5, ho5⟩ := HAP.out true _ w4 (o3.trans o4)
                    refine wpAny_ready (rs := [4]) (by kernel_rfl) (by simp) ?_
                    refine AllReady.cons rfl (fun K hK => ?_) AllReady.nil
                    go_simp
                    refine hK _ _ ?_
                    clear hK K
                    refine wpAny_take (i := 12) (v := ?_) rfl (by kernel_rfl) (by kernel_rfl) (by kernel_rfl) (fun _ _ _ h => h) (Or.inl ⟨by kernel_rfl, ?_⟩) ?_
                    rotate_left
                    · intro w'; go_simp; try with_reducible rfl
                    refine wpAny_ready (rs := [13]) (by kernel_rfl) (by simp) ?_
                    refine AllReady.cons rfl (fun K hK => ?_) AllReady.nil
                    go_simp
                    refine hK _ _ ?_
                    clear hK K
                    refine wpAny_ready (rs := [14]) (by kernel_rfl) (by simp) ?_
                    refine AllReady.cons rfl (fun K hK => ?_) AllReady.nil
                    refine step_append_run rfl _ _ _ _ rfl _ _ rfl rfl _ _ hrun ?_
                    refine hK _ _ ?_
                    clear hK K
                    refine wpAny_take (i := 15) (v := ?_) rfl (by kernel_rfl) (by kernel_rfl) (by kernel_rfl) (fun _ _ _ h => h) (Or.inl ⟨by kernel_rfl, ?_⟩) ?_
                    rotate_left
                    · intro w'; go_simp; try with_reducible rfl
                    refine wpAny_done (by kernel_rfl) ?_ _
                    go_simp
                    go_wp2
                    go_roundw
                    case rel => exact ⟨k + 1, by omega, by go_num, by rw [HTK.out, HENT.out]; exact hown5, ho5⟩
                    case measure => simp [intOf]; omega
            · skip
              go_simp
              refine hK _ _ ?_
              clear hK K
              refine wpAny_ready (rs := [3, 10]) (by kernel_rfl) (by simp) ?_
              refine AllReady.cons rfl (fun K hK => ?_) (AllReady.cons rfl (fun K hK => ?_) AllReady.nil)
              · skip
                go_simp
                refine hK _ _ ?_
                clear hK K
                refine wpAny_ready (rs := [4, 10]) (by kernel_rfl) (by simp) ?_
                refine AllReady.cons rfl (fun K hK => ?_) (AllReady.cons rfl (fun K hK => ?_) AllReady.nil)
                · skip
                  go_simp
                  refine hK _ _ ?_
                  clear hK K
                  refine wpAny_ready (rs := [10]) (by kernel_rfl) (by simp) ?_
                  refine AllReady.cons rfl (fun K hK => ?_) AllReady.nil
                  go_simp
                  go_wp2_with ((with_reducible refine HUD.out.mono ?_); rintro e w3 ⟨u3, rfl, hu3, o3⟩)
                  have c3 := (o3.cell (p := ⟨b6, off6 + k, none⟩) hb6).trans c0
                  have hb63 : b6 < w3.heap.size := Nat.lt_of_lt_of_le hb6 o3.size
                  refine wpAny_ready (rs := [11]) (by kernel_rfl) (by simp) ?_
                  refine AllReady.cons rfl (fun K hK => ?_) AllReady.nil
                  go_simp
                  go_wp2_with ((with_reducible refine (HDG.out w3 u3 hu3.fl).mono ?_); rintro e w4 ⟨rfl, o4⟩)
                  have c4 := (o4.cell (p := ⟨b6, off6 + k, none⟩) hb63).trans c3
                  obtain ⟨v', w5, hrun, hown5, ho5⟩ := HAP.out true _ w4 (o3.trans o4)
                  refine wpAny_take (i := 12) (v := ?_) rfl (by kernel_rfl) (by kernel_rfl) (by kernel_rfl) (fun _ _ _ h => h) (Or.inl ⟨by kernel_rfl, ?_⟩) ?_
                  rotate_left
                  · intro w'; go_simp; try with_reducible rfl
                  refine wpAny_ready (rs := [13]) (by kernel_rfl) (by simp) ?_
                  refine AllReady.cons rfl (fun K hK => ?_) AllReady.nil
                  go_simp
                  refine hK _ _ ?_
                  clear hK K
                  refine wpAny_ready (rs := [14]) (by kernel_rfl) (by simp) ?_
                  refine AllReady.cons rfl (fun K hK => ?_) AllReady.nil
                  refine step_append_run rfl _ _ _ _ rfl _ _ rfl rfl _ _ hrun ?_
                  refine hK _ _ ?_
                  clear hK K
                  refine wpAny_take (i := 15) (v := ?_) rfl (by kernel_rfl) (by kernel_rfl) (by kernel_rfl) (fun _ _ _ h => h) (Or.inl ⟨by kernel_rfl, ?_⟩) ?_
                  rotate_left
                  · intro w'; go_simp; try with_reducible rfl
                  refine wpAny_done (by kernel_rfl) ?_ _
                  go_simp
                  go_wp2
                  go_roundw
                  case rel => exact ⟨k + 1, by omega, by go_num, by rw [HTK.out, HENT.out]; exact hown5, ho5⟩
                  case measure => simp [intOf]; omega
                · skip
                  go_simp
                  go_wp2_with ((with_reducible refine HUD.out.mono ?_); rintro e w3 ⟨u3, rfl, hu3, o3⟩)
                  have c3 := (o3.cell (p := ⟨b6, off6 + k, none⟩) hb6).trans c0
                  have hb63 : b6 < w3.heap.size := Nat.lt_of_lt_of_le hb6 o3.size
                  refine wpAny_ready (rs := [4, 11]) (by kernel_rfl) (by simp) ?_
                  refine AllReady.cons rfl (fun K hK => ?_) (AllReady.cons rfl (fun K hK => ?_) AllReady.nil)
                  · skip
                    go_simp
                    refine hK _ _ ?_
                    clear hK K
                    refine wpAny_ready (rs := [11]) (by kernel_rfl) (by simp) ?_
                    refine AllReady.cons rfl (fun K hK => ?_) AllReady.nil
                    go_simp
                    go_wp2_with ((with_reducible refine (HDG.out w3 u3 hu3.fl).mono ?_); rintro e w4 ⟨rfl, o4⟩)
                    have c4 := (o4.cell (p := ⟨b6, off6 + k, none⟩) hb63).trans c3
                    obtain ⟨v', w5, hrun, hown5, ho5⟩ := HAP.out true _ w4 (o3.trans o4)
                    refine wpAny_take (i := 12) (v := ?_) rfl (by kernel_rfl) (by kernel_rfl) (by kernel_rfl) (fun _ _ _ h => h) (Or.inl ⟨by kernel_rfl, ?_⟩) ?_
                    rotate_left
                    · intro w'; go_simp; try with_reducible rfl
                    refine wpAny_ready (rs := [13]) (by kernel_rfl) (by simp) ?_
                    refine AllReady.cons rfl (fun K hK => ?_) AllReady.nil
                    go_simp
                    refine hK _ _ ?_
                    clear hK K
                    refine wpAny_ready (rs := [14]) (by kernel_rfl) (by simp) ?_
                    refine AllReady.cons rfl (fun K hK => ?_) AllReady.nil
                    refine step_append_run rfl _ _ _ _ rfl _ _ rfl rfl _ _ hrun ?_
                    refine hK _ _ ?_
                    clear hK K
                    refine wpAny_take (i := 15) (v := ?_) rfl (by kernel_rfl) (by kernel_rfl) (by kernel_rfl) (fun _ _ _ h => h) (Or.inl ⟨by kernel_rfl, ?_⟩) ?_
                    rotate_left
                    · intro w'; go_simp; try with_reducible rfl
                    refine wpAny_done (by kernel_rfl) ?_ _
                    go_simp
                    go_wp2
                    go_roundw
                    case rel => exact ⟨k + 1, by omega, by go_num, by rw [HTK.out, HENT.out]; exact hown5, ho5⟩
                    case measure => simp [intOf]; omega
                  · skip
                    go_simp
                    go_wp2_with ((with_reducible refine (HDG.out w3 u3 hu3.fl).mono ?_); rintro e w4 ⟨rfl, o4⟩)
                    have c4 := (o4.cell (p := ⟨b6, off6 + k, none⟩) hb63).trans c3
                    obtain ⟨v', w5, hrun, hown5, ho5⟩ := HAP.out true _ w4 (o3.trans o4)
                    refine wpAny_ready (rs := [4]) (by kernel_rfl) (by simp) ?_
                    refine AllReady.cons rfl (fun K hK => ?_) AllReady.nil
                    go_simp
                    refine hK _ _ ?_
                    clear hK K
                    refine wpAny_take (i := 12) (v := ?_) rfl (by kernel_rfl) (by kernel_rfl) (by kernel_rfl) (fun _ _ _ h => h) (Or.inl ⟨by kernel_rfl, ?_⟩) ?_
                    rotate_left
                    · intro w'; go_simp; try with_reducible rfl
                    refine wpAny_ready (rs := [13]) (by kernel_rfl) (by simp) ?_
                    refine AllReady.cons rfl (fun K hK => ?_) AllReady.nil
                    go_simp
                    refine hK _ _ ?_
                    clear hK K
                    refine wpAny_ready (rs := [14]) (by kernel_rfl) (by simp) ?_
                    refine AllReady.cons rfl (fun K hK => ?_) AllReady.nil
                    refine step_append_run rfl _ _ _ _ rfl _ _ rfl rfl _ _ hrun ?_
                    refine hK _ _ ?_
                    clear hK K
                    refine wpAny_take (i := 15) (v := ?_) rfl (by kernel_rfl) (by kernel_rfl) (by kernel_rfl) (fun _ _ _ h => h) (Or.inl ⟨by kernel_rfl, ?_⟩) ?_
                    rotate_left
                    · intro w'; go_simp; try with_reducible rfl
                    refine wpAny_done (by kernel_rfl) ?_ _
                    go_simp
                    go_wp2
                    go_roundw
                    case rel => exact ⟨k + 1, by omega, by go_num, by rw [HTK.out, HENT.out]; exact hown5, ho5⟩
                    case measure => simp [intOf]; omega
              · skip
                go_simp
                go_wp2_with ((with_reducible refine HUD.out.mono ?_); rintro e w3 ⟨u3, rfl, hu3, o3⟩)
                have c3 := (o3.cell (p := ⟨b6, off6 + k, none⟩) hb6).trans c0
                have hb63 : b6 < w3.heap.size := Nat.lt_of_lt_of_le hb6 o3.size
                refine wpAny_ready (rs := [3, 11]) (by kernel_rfl) (by simp) ?_
                refine AllReady.cons rfl (fun K hK => ?_) (AllReady.cons rfl (fun K hK => ?_) AllReady.nil)
                · skip
                  go_simp
                  refine hK _ _ ?_
                  clear hK K
                  refine wpAny_ready (rs := [4, 11]) (by kernel_rfl) (by simp) ?_
                  refine AllReady.cons rfl (fun K hK => ?_) (AllReady.cons rfl (fun K hK => ?_) AllReady.nil)
                  · skip
                    go_simp
                    refine hK _ _ ?_
                    clear hK K
                    refine wpAny_ready (rs := [11]) (by kernel_rfl) (by simp) ?_
                    refine AllReady.cons rfl (fun K hK => ?_) AllReady.nil
                    go_simp
                    go_wp2_with ((with_reducible refine (HDG.out w3 u3 hu3.fl).mono ?_); rintro e w4 ⟨rfl, o4⟩)
                    have c4 := (o4.cell (p := ⟨b6, off6 + k, none⟩) hb63).trans c3
                    obtain ⟨v', w5, hrun, hown5, ho5⟩ := HAP.out true _ w4 (o3.trans o4)
                    refine wpAny_take (i := 12) (v := ?_) rfl (by kernel_rfl) (by kernel_rfl) (by kernel_rfl) (fun _ _ _ h => h) (Or.inl ⟨by kernel_rfl, ?_⟩) ?_
                    rotate_left
                    · intro w'; go_simp; try with_reducible rfl
                    refine wpAny_ready (rs := [13]) (by kernel_rfl) (by simp) ?_
                    refine AllReady.cons rfl (fun K hK => ?_) AllReady.nil
                    go_simp
                    refine hK _ _ ?_
                    clear hK K
                    refine wpAny_ready (rs := [14]) (by kernel_rfl) (by simp) ?_
                    refine AllReady.cons rfl (fun K hK => ?_) AllReady.nil
                    refine step_append_run rfl _ _ _ _ rfl _ _ rfl rfl _ _ hrun ?_
                    refine hK _ _ ?_
                    clear hK K
                    refine wpAny_take (i := 15) (v := ?_) rfl (by kernel_rfl) (by kernel_rfl) (by kernel_rfl) (fun _ _ _ h => h) (Or.inl ⟨by kernel_rfl, ?_⟩) ?_
                    rotate_left
                    · intro w'; go_simp; try with_reducible rfl
                    refine wpAny_done (by kernel_rfl) ?_ _
                    go_simp
                    go_wp2
                    go_roundw
                    case rel => exact ⟨k + 1, by omega, by go_num, by rw [HTK.out, HENT.out]; exact hown5, ho5⟩
                    case measure => simp [intOf]; omega
                  · skip
                    go_simp
                    go_wp2_with ((with_reducible refine (HDG.out w3 u3 hu3.fl).mono ?_); rintro e w4 ⟨rfl, o4⟩)
                    have c4 := (o4.cell (p := ⟨b6, off6 + k, none⟩) hb63).trans c3
                    obtain ⟨v', w5, hrun, hown5, ho5⟩ := HAP.out true _ w4 (o3.trans o4)
                    refine wpAny_ready (rs := [4]) (by kernel_rfl) (by simp) ?_
                    refine AllReady.cons rfl (fun K hK => ?_) AllReady.nil
                    go_simp
                    refine hK _ _ ?_
                    clear hK K
                    refine wpAny_take (i := 12) (v := ?_) rfl (by kernel_rfl) (by kernel_rfl) (by kernel_rfl) (fun _ _ _ h => h) (Or.inl ⟨by kernel_rfl, ?_⟩) ?_
                    rotate_left
                    · intro w'; go_simp; try with_reducible rfl
                    refine wpAny_ready (rs := [13]) (by kernel_rfl) (by simp) ?_
                    refine AllReady.cons rfl (fun K hK => ?_) AllReady.nil
                    go_simp
                    refine hK _ _ ?_
                    clear hK K
                    refine wpAny_ready (rs := [14]) (by kernel_rfl) (by simp) ?_
                    refine AllReady.cons rfl (fun K hK => ?_) AllReady.nil
                    refine step_append_run rfl _ _ _ _ rfl _ _ rfl rfl _ _ hrun ?_
                    refine hK _ _ ?_
                    clear hK K
                    refine wpAny_take (i := 15) (v := ?_) rfl (by kernel_rfl) (by kernel_rfl) (by kernel_rfl) (fun _ _ _ h => h) (Or.inl ⟨by kernel_rfl, ?_⟩) ?_
                    rotate_left
                    · intro w'; go_simp; try with_reducible rfl
                    refine wpAny_done (by kernel_rfl) ?_ _
                    go_simp
                    go_wp2
                    go_roundw
                    case rel => exact ⟨k + 1, by omega, by go_num, by rw [HTK.out, HENT.out]; exact hown5, ho5⟩
                    case measure => simp [intOf]; omega
                · skip
                  go_simp
                  go_wp2_with ((with_reducible refine (HDG.out w3 u3 hu3.fl).mono ?_); rintro e w4 ⟨rfl, o4⟩)
                  have c4 := (o4.cell (p := ⟨b6, off6 + k, none⟩) hb63).trans c3
                  obtain ⟨v', w5, hrun, hown5, ho5⟩ := HAP.out true _ w4 (o3.trans o4)
                  refine wpAny_ready (rs := [3]) (by kernel_rfl) (by simp) ?_
                  refine AllReady.cons rfl (fun K hK => ?_) AllReady.nil
                  go_simp
                  refine hK _ _ ?_
                  clear hK K
                  refine wpAny_ready (rs := [4]) (by kernel_rfl) (by simp) ?_
                  refine AllReady.cons rfl (fun K hK => ?_) AllReady.nil
                  go_simp
                  refine hK _ _ ?_
                  clear hK K
                  refine wpAny_take (i := 12) (v := ?_) rfl (by kernel_rfl) (by kernel_rfl) (by kernel_rfl) (fun _ _ _ h => h) (Or.inl ⟨by kernel_rfl, ?_⟩) ?_
                  rotate_left
                  · intro w'; go_simp; try with_reducible rfl
                  refine wpAny_ready (rs := [13]) (by kernel_rfl) (by simp) ?_
                  refine AllReady.cons rfl (fun K hK => ?_) AllReady.nil
                  go_simp
                  refine hK _ _ ?_
                  clear hK K
                  refine wpAny_ready (rs := [14]) (by kernel_rfl) (by simp) ?_
                  refine AllReady.cons rfl (fun K hK => ?_) AllReady.nil
                  refine step_append_run rfl _ _ _ _ rfl _ _ rfl rfl _ _ hrun ?_
                  refine hK _ _ ?_
                  clear hK K
                  refine wpAny_take (i := 15) (v := ?_) rfl (by kernel_rfl) (by kernel_rfl) (by kernel_rfl) (fun _ _ _ h => h) (Or.inl ⟨by kernel_rfl, ?_⟩) ?_
                  rotate_left
                  · intro w'; go_simp; try with_reducible rfl
                  refine wpAny_done (by kernel_rfl) ?_ _
                  go_simp
                  go_wp2
                  go_roundw
                  case rel => exact ⟨k + 1, by omega, by go_num, by rw [HTK.out, HENT.out]; exact hown5, ho5⟩
                  case measure => simp [intOf]; omega
      · obtain rfl : k = (M.names fs).length := by omega
        rw [List.take_length, ← M.dir_eq] at hown
        have HOWN := Lib.hid (EOwn.el hown)
        clear hown
        go_wp2
        go_ret
        exact ⟨_, rfl, HOWN.out, HO1.out.trans (HOC.out.trans HO2.out)⟩
end Go.Proofs.YtabcobadglgfkaaGreatDoor
