/- Merged of: TreeC TreeG. -/
import Derived.Test.YtabcobadglgfkaaGreatDoorMT1
import Derived.Test.YtabcobadglgfkaaGreatDoorMF1
import Derived.Shelf.SlSorted.Search
/- The program's bytes of entries that may be. -/
namespace Go.Proofs.YtabcobadglgfkaaGreatDoor
open Go.RowKit

theorem rightE_isN (e : M.En) : M.rightE e = (isN e.1 && decide (e.2.2.length = 32)) := by
  unfold M.rightE isN
  rw [Bool.eq_iff_iff]
  simp [and_assoc]
theorem isN_path {s : List UInt8} (h : isN s = true) : s.length ≤ 48 := by
  unfold isN at h
  simp only [Bool.and_eq_true, beq_iff_eq] at h
  have h := h.1
  unfold M.path at h
  split at h
  · rename_i hx; exact hx.1
  · cases h
theorem right_no {es : List M.En} {k : Nat} (hk : k < es.length) (h : M.rightAt es k = false) : M.encode es = ([], 11) := by
  have : M.right es = false := by
    cases hr : M.right es with
    | false => rfl
    | true => have := (M.right_iff es).1 hr k hk; rw [h] at this; cases this
  unfold M.encode
  rw [this]; rfl
theorem right_yes {es : List M.En} (h : M.right es = true) : M.encode es = (M.bytes es, 0) := by unfold M.encode; rw [h]; rfl
theorem rightAt_eq {es : List M.En} {k : Nat} (hk : k < es.length) : M.rightAt es k = (isN es[k].1 && decide (es[k].2.2.length = 32) && (decide (k = 0) || M.bl (es[k - 1]'(by omega)).1 es[k].1)) := by
  unfold M.rightAt
  rw [List.getElem?_eq_getElem hk, List.getElem?_eq_getElem (show k - 1 < es.length by omega)]
  simp only [rightE_isN]
  congr 2
theorem enBytes_len {e : M.En} (h : M.rightE e = true) : (M.enBytes e).length ≤ 200 := by
  rw [rightE_isN] at h
  simp only [Bool.and_eq_true, decide_eq_true_eq] at h
  have h1 := isN_path h.1
  have p1 := M.pack_len e.1 (by omega)
  have p2 := M.pack_len (M.mark e.2.1) (by simp [M.mark])
  have p3 := M.pack_len e.2.2 (by omega)
  have hm : (M.mark e.2.1).length = 1 := rfl
  have hp : (M.packs [e.1, M.mark e.2.1, e.2.2]).length ≤ 150 := by
    simp only [M.packs, List.map_cons, List.map_nil, List.flatten_cons, List.flatten_nil, List.append_nil, List.length_append]
    omega
  have p4 := M.pack_len (M.packs [e.1, M.mark e.2.1, e.2.2]) (by omega)
  unfold M.enBytes
  omega
theorem bytes_len : ∀ {es : List M.En}, (∀ e ∈ es, M.rightE e = true) → (M.bytes es).length ≤ 200 * es.length
  | [], _ => by simp [M.bytes_nil]
  | e :: r, h => by
      have h1 := enBytes_len (h e (by simp))
      have h2 := bytes_len (es := r) (fun x hx => h x (by simp [hx]))
      rw [M.bytes_cons, List.length_append, List.length_cons]
      omega
theorem right_all {es : List M.En} (h : M.right es = true) : ∀ e ∈ es, M.rightE e = true := fun e he => by
  obtain ⟨k, hk, rfl⟩ := List.getElem_of_mem he
  have := (M.right_iff es).1 h k hk
  unfold M.rightAt at this
  rw [List.getElem?_eq_getElem hk] at this
  simp only [Bool.and_eq_true] at this
  exact this.1

set_option maxHeartbeats 4000000 in
set_option maxRecDepth 100000 in
theorem encode_any (v : Value) (es : List M.En) (w : World) (ht : Tab w) (hm : Mx w) (h : El w v es) (hl : es.length ≤ 549755813888) (hs : ∀ e ∈ es, e.1.length ≤ maxLen ∧ e.2.2.length ≤ maxLen) :
    Calls Tryz.prog 19 #[v] w fun e w' => e = .returned (.tuple #[.string ⟨⟨(M.encode es).1⟩⟩, .int .i64 (M.encode es).2]) ∧ Old w w' := by
  obtain ⟨pp, cap, rfl⟩ := h.len
  have H := Lib.hid h
  have HM := Lib.hid hm
  have HT := Lib.hid ht
  have HS := Lib.hid hs
  clear h hm ht hs
  go_enter Tryz.func19, Tryz.ntmps19
  go_wp2
  go_loopw [8] (fun i wr => ∃ k : Nat, k ≤ es.length ∧ i = .int .i64 k ∧ M.right (es.take k) = true ∧ Old w wr) (fun i _ => es.length - (intOf i).toNat)
  case atStart => exact ⟨0, Nat.zero_le _, rfl, by rfl, Below.refl _ _⟩
  case round =>
    obtain ⟨k, hk, rfl, hrt, ho⟩ := hrel
    have HO := Lib.hid ho
    have HR := Lib.hid hrt
    clear ho hrt
    by_cases hlt : k < es.length
    · obtain ⟨b, off, rfl, hb, hc⟩ := (H.out.old HO.out).at (by intro h; rw [h] at hlt; exact absurd hlt (Nat.not_lt_zero _))
      obtain ⟨hc0, hc1, hc2⟩ := hc k hlt
      have HC := Lib.hid hc
      have HRA := Lib.hid (rightAt_eq hlt)
      have HNO := Lib.hid (fun h => right_no hlt h)
      have HYES := Lib.hid (M.right_take_succ es k hlt)
      obtain ⟨hsn, hsg⟩ := HS.out _ (List.getElem_mem hlt)
      clear hc
      generalize hx : es[k] = x at *
      obtain ⟨n, d, g⟩ := x
      simp only at hc0 hc1 hc2 hsn hsg HRA
      obtain ⟨w2, ew2, hb2, ho2⟩ : ∃ w2, wr.alloc (.cells #[S n, .bool d, S g] 33) = w2 ∧ Blk w2 wr.heap.size #[S n, .bool d, S g] 33 ∧ Old wr w2 := ⟨_, rfl, Blk.new wr _ _, Old.alloc wr _⟩
      have d0 := hb2.cellN 0 rfl
      have d2 := hb2.cellN 2 rfl
      have HO2 := Lib.hid (HO.out.trans ho2)
      have HN := Lib.hid (isName_any n hsn w2.drew ((HM.out.old HO2.out).old (Old.drewN _ 1)))
      have hgs := size_mk g
      clear hb2
      clear hx
      generalize isN n = r at HN HRA
      cases r with
      | false =>
        have HE := Lib.hid (HNO.out (by rw [HRA.out] <;> rfl))
        clear HNO HYES HRA HS HC
        go_upto_region 4 with (fail)
        refine wp_region_any (by kernel_rfl) ?_
        change wpAny _ _ _ _ _ _ _ (World.drew _)
        refine wpAny_take (i := 0) (v := ?_) rfl (by kernel_rfl) (by kernel_rfl) (by kernel_rfl) (fun _ _ _ h => h) (Or.inl ⟨by kernel_rfl, ?_⟩) ?_
        rotate_left
        · intro w'; go_simp; try with_reducible rfl
        refine wpAny_ready (rs := [1]) (by kernel_rfl) (by simp) ?_
        refine AllReady.cons rfl (fun K hK => ?_) AllReady.nil
        go_simp
        refine hK _ _ ?_
        clear hK K
        refine wpAny_ready (rs := [2]) (by kernel_rfl) (by simp) ?_
        refine AllReady.cons rfl (fun K hK => ?_) AllReady.nil
        go_simp
        go_wp2_with ((with_reducible refine HN.out.mono ?_); rintro e w3 ⟨rfl, ho3⟩)
        refine wpAny_take (i := 3) (v := ?_) rfl (by kernel_rfl) (by kernel_rfl) (by kernel_rfl) (fun _ _ _ h => h) (Or.inl ⟨by kernel_rfl, ?_⟩) ?_
        rotate_left
        · intro w'; go_simp; try with_reducible rfl
        refine wpAny_take (i := 4) (v := ?_) rfl (by kernel_rfl) (by kernel_rfl) (by kernel_rfl) (fun _ _ _ h => h) (Or.inl ⟨by kernel_rfl, ?_⟩) ?_
        rotate_left
        · intro w'; go_simp; try with_reducible rfl
        refine wpAny_take (i := 5) (v := undef) rfl (by kernel_rfl) (by kernel_rfl) (by kernel_rfl) (fun _ _ _ h => h) (Or.inr ⟨by kernel_rfl, rfl⟩) ?_
        refine wpAny_take (i := 6) (v := undef) rfl (by kernel_rfl) (by kernel_rfl) (by kernel_rfl) (fun _ _ _ h => h) (Or.inr ⟨by kernel_rfl, rfl⟩) ?_
        refine wpAny_take (i := 7) (v := undef) rfl (by kernel_rfl) (by kernel_rfl) (by kernel_rfl) (fun _ _ _ h => h) (Or.inr ⟨by kernel_rfl, rfl⟩) ?_
        refine wpAny_take (i := 8) (v := undef) rfl (by kernel_rfl) (by kernel_rfl) (by kernel_rfl) (fun _ _ _ h => h) (Or.inr ⟨by kernel_rfl, rfl⟩) ?_
        refine wpAny_take (i := 9) (v := ?_) rfl (by kernel_rfl) (by kernel_rfl) (by kernel_rfl) (fun _ _ _ h => h) (Or.inl ⟨by kernel_rfl, ?_⟩) ?_
        rotate_left
        · intro w'; go_simp; try with_reducible rfl
        refine wpAny_take (i := 10) (v := ?_) rfl (by kernel_rfl) (by kernel_rfl) (by kernel_rfl) (fun _ _ _ h => h) (Or.inl ⟨by kernel_rfl, ?_⟩) ?_
        rotate_left
        · intro w'; go_simp; try with_reducible rfl
        refine wpAny_take (i := 11) (v := undef) rfl (by kernel_rfl) (by kernel_rfl) (by kernel_rfl) (fun _ _ _ h => h) (Or.inr ⟨by kernel_rfl, rfl⟩) ?_
        refine wpAny_take (i := 12) (v := undef) rfl (by kernel_rfl) (by kernel_rfl) (by kernel_rfl) (fun _ _ _ h => h) (Or.inr ⟨by kernel_rfl, rfl⟩) ?_
        refine wpAny_take (i := 13) (v := undef) rfl (by kernel_rfl) (by kernel_rfl) (by kernel_rfl) (fun _ _ _ h => h) (Or.inr ⟨by kernel_rfl, rfl⟩) ?_
        refine wpAny_take (i := 14) (v := undef) rfl (by kernel_rfl) (by kernel_rfl) (by kernel_rfl) (fun _ _ _ h => h) (Or.inr ⟨by kernel_rfl, rfl⟩) ?_
        refine wpAny_take (i := 15) (v := undef) rfl (by kernel_rfl) (by kernel_rfl) (by kernel_rfl) (fun _ _ _ h => h) (Or.inr ⟨by kernel_rfl, rfl⟩) ?_
        refine wpAny_take (i := 16) (v := undef) rfl (by kernel_rfl) (by kernel_rfl) (by kernel_rfl) (fun _ _ _ h => h) (Or.inr ⟨by kernel_rfl, rfl⟩) ?_
        refine wpAny_take (i := 17) (v := undef) rfl (by kernel_rfl) (by kernel_rfl) (by kernel_rfl) (fun _ _ _ h => h) (Or.inr ⟨by kernel_rfl, rfl⟩) ?_
        refine wpAny_take (i := 18) (v := undef) rfl (by kernel_rfl) (by kernel_rfl) (by kernel_rfl) (fun _ _ _ h => h) (Or.inr ⟨by kernel_rfl, rfl⟩) ?_
        refine wpAny_take (i := 19) (v := undef) rfl (by kernel_rfl) (by kernel_rfl) (by kernel_rfl) (fun _ _ _ h => h) (Or.inr ⟨by kernel_rfl, rfl⟩) ?_
        refine wpAny_take (i := 20) (v := undef) rfl (by kernel_rfl) (by kernel_rfl) (by kernel_rfl) (fun _ _ _ h => h) (Or.inr ⟨by kernel_rfl, rfl⟩) ?_
        refine wpAny_take (i := 21) (v := undef) rfl (by kernel_rfl) (by kernel_rfl) (by kernel_rfl) (fun _ _ _ h => h) (Or.inr ⟨by kernel_rfl, rfl⟩) ?_
        refine wpAny_take (i := 22) (v := undef) rfl (by kernel_rfl) (by kernel_rfl) (by kernel_rfl) (fun _ _ _ h => h) (Or.inr ⟨by kernel_rfl, rfl⟩) ?_
        refine wpAny_take (i := 23) (v := undef) rfl (by kernel_rfl) (by kernel_rfl) (by kernel_rfl) (fun _ _ _ h => h) (Or.inr ⟨by kernel_rfl, rfl⟩) ?_
        refine wpAny_take (i := 24) (v := ?_) rfl (by kernel_rfl) (by kernel_rfl) (by kernel_rfl) (fun _ _ _ h => h) (Or.inl ⟨by kernel_rfl, ?_⟩) ?_
        rotate_left
        · intro w'; go_simp; try with_reducible rfl
        refine wpAny_done (by kernel_rfl) ?_ _
        go_simp
        go_wp2
        go_ret2
        exact ⟨by rw [HE.out]; rfl, HO2.out.trans ((Old.drewN w2 1).trans ho3)⟩
      | true =>
        by_cases hg : g.length = 32
        · have hz : ((g.length : Int) != 32) = false := by rw [hg]; rfl
          by_cases hk0 : k = 0
          · have hg0 : decide (0 < k) = false := decide_eq_false (by omega)
            have HY := Lib.hid (HYES.out.trans (by rw [HR.out, HRA.out, decide_eq_true hg, decide_eq_true hk0] <;> rfl))
            clear HNO HYES HRA HC HS hk0
            go_upto_region 4 with (fail)
            refine wp_region_any (by kernel_rfl) ?_
            change wpAny _ _ _ _ _ _ _ (World.drew _)
            refine wpAny_take (i := 0) (v := ?_) rfl (by kernel_rfl) (by kernel_rfl) (by kernel_rfl) (fun _ _ _ h => h) (Or.inl ⟨by kernel_rfl, ?_⟩) ?_
            rotate_left
            · intro w'; go_simp; try with_reducible rfl
            refine wpAny_ready (rs := [1]) (by kernel_rfl) (by simp) ?_
            refine AllReady.cons rfl (fun K hK => ?_) AllReady.nil
            go_simp
            refine hK _ _ ?_
            clear hK K
            refine wpAny_ready (rs := [2]) (by kernel_rfl) (by simp) ?_
            refine AllReady.cons rfl (fun K hK => ?_) AllReady.nil
            go_simp
            go_wp2_with ((with_reducible refine HN.out.mono ?_); rintro e w3 ⟨rfl, ho3⟩)
            have d2' := (ho3.cell (p := ⟨wr.heap.size, 2, none⟩) (by have := ho2.size; have := World.block_lt_of_cell? _ _ d2; simpa using this)).trans d2
            refine wpAny_take (i := 3) (v := ?_) rfl (by kernel_rfl) (by kernel_rfl) (by kernel_rfl) (fun _ _ _ h => h) (Or.inl ⟨by kernel_rfl, ?_⟩) ?_
            rotate_left
            · intro w'; go_simp; try with_reducible rfl
            refine wpAny_take (i := 4) (v := ?_) rfl (by kernel_rfl) (by kernel_rfl) (by kernel_rfl) (fun _ _ _ h => h) (Or.inl ⟨by kernel_rfl, ?_⟩) ?_
            rotate_left
            · intro w'; go_simp; try with_reducible rfl
            refine wpAny_take (i := 5) (v := ?_) rfl (by kernel_rfl) (by kernel_rfl) (by kernel_rfl) (fun _ _ _ h => h) (Or.inl ⟨by kernel_rfl, ?_⟩) ?_
            rotate_left
            · intro w'; go_simp; try with_reducible rfl
            refine wpAny_ready (rs := [6]) (by kernel_rfl) (by simp) ?_
            refine AllReady.cons rfl (fun K hK => ?_) AllReady.nil
            go_simp
            refine hK _ _ ?_
            clear hK K
            refine wpAny_take (i := 7) (v := ?_) rfl (by kernel_rfl) (by kernel_rfl) (by kernel_rfl) (fun _ _ _ h => h) (Or.inl ⟨by kernel_rfl, ?_⟩) ?_
            rotate_left
            · intro w'; go_simp; try with_reducible rfl
            refine wpAny_take (i := 8) (v := ?_) rfl (by kernel_rfl) (by kernel_rfl) (by kernel_rfl) (fun _ _ _ h => h) (Or.inl ⟨by kernel_rfl, ?_⟩) ?_
            rotate_left
            · intro w'; go_simp; try with_reducible rfl
            refine wpAny_take (i := 9) (v := ?_) rfl (by kernel_rfl) (by kernel_rfl) (by kernel_rfl) (fun _ _ _ h => h) (Or.inl ⟨by kernel_rfl, ?_⟩) ?_
            rotate_left
            · intro w'; go_simp; try with_reducible rfl
            refine wpAny_take (i := 10) (v := ?_) rfl (by kernel_rfl) (by kernel_rfl) (by kernel_rfl) (fun _ _ _ h => h) (Or.inl ⟨by kernel_rfl, ?_⟩) ?_
            rotate_left
            · intro w'; go_simp; try with_reducible rfl
            refine wpAny_take (i := 11) (v := ?_) rfl (by kernel_rfl) (by kernel_rfl) (by kernel_rfl) (fun _ _ _ h => h) (Or.inl ⟨by kernel_rfl, ?_⟩) ?_
            rotate_left
            · intro w'; go_simp; try with_reducible rfl
            refine wpAny_take (i := 12) (v := ?_) rfl (by kernel_rfl) (by kernel_rfl) (by kernel_rfl) (fun _ _ _ h => h) (Or.inl ⟨by kernel_rfl, ?_⟩) ?_
            rotate_left
            · intro w'; go_simp; try with_reducible rfl
            refine wpAny_take (i := 13) (v := ?_) rfl (by kernel_rfl) (by kernel_rfl) (by kernel_rfl) (fun _ _ _ h => h) (Or.inl ⟨by kernel_rfl, ?_⟩) ?_
            rotate_left
            · intro w'; go_simp; try with_reducible rfl
            refine wpAny_take (i := 14) (v := undef) rfl (by kernel_rfl) (by kernel_rfl) (by kernel_rfl) (fun _ _ _ h => h) (Or.inr ⟨by kernel_rfl, rfl⟩) ?_
            refine wpAny_take (i := 15) (v := undef) rfl (by kernel_rfl) (by kernel_rfl) (by kernel_rfl) (fun _ _ _ h => h) (Or.inr ⟨by kernel_rfl, rfl⟩) ?_
            refine wpAny_take (i := 16) (v := undef) rfl (by kernel_rfl) (by kernel_rfl) (by kernel_rfl) (fun _ _ _ h => h) (Or.inr ⟨by kernel_rfl, rfl⟩) ?_
            refine wpAny_take (i := 17) (v := undef) rfl (by kernel_rfl) (by kernel_rfl) (by kernel_rfl) (fun _ _ _ h => h) (Or.inr ⟨by kernel_rfl, rfl⟩) ?_
            refine wpAny_take (i := 18) (v := undef) rfl (by kernel_rfl) (by kernel_rfl) (by kernel_rfl) (fun _ _ _ h => h) (Or.inr ⟨by kernel_rfl, rfl⟩) ?_
            refine wpAny_take (i := 19) (v := undef) rfl (by kernel_rfl) (by kernel_rfl) (by kernel_rfl) (fun _ _ _ h => h) (Or.inr ⟨by kernel_rfl, rfl⟩) ?_
            refine wpAny_take (i := 20) (v := undef) rfl (by kernel_rfl) (by kernel_rfl) (by kernel_rfl) (fun _ _ _ h => h) (Or.inr ⟨by kernel_rfl, rfl⟩) ?_
            refine wpAny_take (i := 21) (v := undef) rfl (by kernel_rfl) (by kernel_rfl) (by kernel_rfl) (fun _ _ _ h => h) (Or.inr ⟨by kernel_rfl, rfl⟩) ?_
            refine wpAny_take (i := 22) (v := undef) rfl (by kernel_rfl) (by kernel_rfl) (by kernel_rfl) (fun _ _ _ h => h) (Or.inr ⟨by kernel_rfl, rfl⟩) ?_
            refine wpAny_take (i := 23) (v := ?_) rfl (by kernel_rfl) (by kernel_rfl) (by kernel_rfl) (fun _ _ _ h => h) (Or.inl ⟨by kernel_rfl, ?_⟩) ?_
            rotate_left
            · intro w'; go_simp; try with_reducible rfl
            refine wpAny_take (i := 24) (v := ?_) rfl (by kernel_rfl) (by kernel_rfl) (by kernel_rfl) (fun _ _ _ h => h) (Or.inl ⟨by kernel_rfl, ?_⟩) ?_
            rotate_left
            · intro w'; go_simp; try with_reducible rfl
            refine wpAny_done (by kernel_rfl) ?_ _
            go_simp
            go_wp2
            go_roundw
            case rel => exact ⟨k + 1, by omega, by go_num, HY.out, HO2.out.trans ((Old.drewN w2 1).trans ho3)⟩
            case measure => simp [intOf]; omega
          · have hg0 : decide (0 < k) = true := decide_eq_true (by omega)
            have hw1 : IntKind.i64.wrap ((k : Int) - 1) = (k : Int) - 1 := IntWalk.i64_in _ (by omega)
            have i1 : (1 : Int) ≤ (k : Int) := by omega
            have i2 : (k : Int) - 1 < (es.length : Int) := by omega
            have i3 : ((k : Int) - 1).toNat = k - 1 := by omega
            have hp0 := (HC.out (k - 1) (by omega)).1
            have HRB := Lib.hid (HRA.out.trans (by rw [decide_eq_true hg, decide_eq_false hk0] <;> rfl))
            generalize (es[k - 1]'(by omega)).1 = y at *
            generalize hbl : M.bl y n = r at HRB
            have hb2 : Op.bytesLess y n = r := hbl
            clear hbl HRA HC HS hgs
            have hgs := size_mk g
            cases r with
            | false =>
              have HE := Lib.hid (HNO.out HRB.out)
              clear HNO HYES
              go_upto_region 4 with (fail)
              refine wp_region_any (by kernel_rfl) ?_
              change wpAny _ _ _ _ _ _ _ (World.drew _)
              refine wpAny_take (i := 0) (v := ?_) rfl (by kernel_rfl) (by kernel_rfl) (by kernel_rfl) (fun _ _ _ h => h) (Or.inl ⟨by kernel_rfl, ?_⟩) ?_
              rotate_left
              · intro w'; go_simp; try with_reducible rfl
              refine wpAny_ready (rs := [1]) (by kernel_rfl) (by simp) ?_
              refine AllReady.cons rfl (fun K hK => ?_) AllReady.nil
              go_simp
              refine hK _ _ ?_
              clear hK K
              refine wpAny_ready (rs := [2]) (by kernel_rfl) (by simp) ?_
              refine AllReady.cons rfl (fun K hK => ?_) AllReady.nil
              go_simp
              go_wp2_with ((with_reducible refine HN.out.mono ?_); rintro e w3 ⟨rfl, ho3⟩)
              have hl3 : wr.heap.size < w2.heap.size := by have := World.block_lt_of_cell? _ _ d2; simpa using this
              have d2' := (ho3.cell (p := ⟨wr.heap.size, 2, none⟩) hl3).trans d2
              have d0' := (ho3.cell (p := ⟨wr.heap.size, 0, none⟩) hl3).trans d0
              have hp1 := (ho3.cell (p := ⟨b, off + (k - 1) * 3, none⟩) (by show b < w2.heap.size; omega)).trans ((ho2.cell (p := ⟨b, off + (k - 1) * 3, none⟩) hb).trans hp0)
              refine wpAny_take (i := 3) (v := ?_) rfl (by kernel_rfl) (by kernel_rfl) (by kernel_rfl) (fun _ _ _ h => h) (Or.inl ⟨by kernel_rfl, ?_⟩) ?_
              rotate_left
              · intro w'; go_simp; try with_reducible rfl
              refine wpAny_take (i := 4) (v := ?_) rfl (by kernel_rfl) (by kernel_rfl) (by kernel_rfl) (fun _ _ _ h => h) (Or.inl ⟨by kernel_rfl, ?_⟩) ?_
              rotate_left
              · intro w'; go_simp; try with_reducible rfl
              refine wpAny_take (i := 5) (v := ?_) rfl (by kernel_rfl) (by kernel_rfl) (by kernel_rfl) (fun _ _ _ h => h) (Or.inl ⟨by kernel_rfl, ?_⟩) ?_
              rotate_left
              · intro w'; go_simp; try with_reducible rfl
              refine wpAny_ready (rs := [6]) (by kernel_rfl) (by simp) ?_
              refine AllReady.cons rfl (fun K hK => ?_) AllReady.nil
              go_simp
              refine hK _ _ ?_
              clear hK K
              refine wpAny_take (i := 7) (v := ?_) rfl (by kernel_rfl) (by kernel_rfl) (by kernel_rfl) (fun _ _ _ h => h) (Or.inl ⟨by kernel_rfl, ?_⟩) ?_
              rotate_left
              · intro w'; go_simp; try with_reducible rfl
              refine wpAny_take (i := 8) (v := ?_) rfl (by kernel_rfl) (by kernel_rfl) (by kernel_rfl) (fun _ _ _ h => h) (Or.inl ⟨by kernel_rfl, ?_⟩) ?_
              rotate_left
              · intro w'; go_simp; try with_reducible rfl
              refine wpAny_take (i := 9) (v := ?_) rfl (by kernel_rfl) (by kernel_rfl) (by kernel_rfl) (fun _ _ _ h => h) (Or.inl ⟨by kernel_rfl, ?_⟩) ?_
              rotate_left
              · intro w'; go_simp; try with_reducible rfl
              refine wpAny_take (i := 10) (v := ?_) rfl (by kernel_rfl) (by kernel_rfl) (by kernel_rfl) (fun _ _ _ h => h) (Or.inl ⟨by kernel_rfl, ?_⟩) ?_
              rotate_left
              · intro w'; go_simp; try with_reducible rfl
              refine wpAny_take (i := 11) (v := ?_) rfl (by kernel_rfl) (by kernel_rfl) (by kernel_rfl) (fun _ _ _ h => h) (Or.inl ⟨by kernel_rfl, ?_⟩) ?_
              rotate_left
              · intro w'; go_simp; try with_reducible rfl
              refine wpAny_take (i := 12) (v := ?_) rfl (by kernel_rfl) (by kernel_rfl) (by kernel_rfl) (fun _ _ _ h => h) (Or.inl ⟨by kernel_rfl, ?_⟩) ?_
              rotate_left
              · intro w'; go_simp; try with_reducible rfl
              refine wpAny_take (i := 13) (v := ?_) rfl (by kernel_rfl) (by kernel_rfl) (by kernel_rfl) (fun _ _ _ h => h) (Or.inl ⟨by kernel_rfl, ?_⟩) ?_
              rotate_left
              · intro w'; go_simp; try with_reducible rfl
              refine wpAny_take (i := 14) (v := ?_) rfl (by kernel_rfl) (by kernel_rfl) (by kernel_rfl) (fun _ _ _ h => h) (Or.inl ⟨by kernel_rfl, ?_⟩) ?_
              rotate_left
              · intro w'; go_simp; try with_reducible rfl
              refine wpAny_take (i := 15) (v := ?_) rfl (by kernel_rfl) (by kernel_rfl) (by kernel_rfl) (fun _ _ _ h => h) (Or.inl ⟨by kernel_rfl, ?_⟩) ?_
              rotate_left
              · intro w'; go_simp; try with_reducible rfl
              refine wpAny_take (i := 16) (v := ?_) rfl (by kernel_rfl) (by kernel_rfl) (by kernel_rfl) (fun _ _ _ h => h) (Or.inl ⟨by kernel_rfl, ?_⟩) ?_
              rotate_left
              · intro w'; go_simp; try with_reducible rfl
              refine wpAny_take (i := 20) (v := ?_) rfl (by kernel_rfl) (by kernel_rfl) (by kernel_rfl) (fun _ _ _ h => h) (Or.inl ⟨by kernel_rfl, ?_⟩) ?_
              rotate_left
              · intro w'; go_simp; try with_reducible rfl
              apply cut_here
              · intro key
                refine wpAny_ready (rs := [17, 21]) (by kernel_rfl) (by simp) ?_
                refine AllReady.cons rfl (fun K hK => ?_) (AllReady.cons rfl (fun K hK => ?_) AllReady.nil)
                · skip
                  go_simp
                  refine hK _ _ ?_
                  clear hK K
                  refine wpAny_take (i := 18) (v := ?_) rfl (by kernel_rfl) (by kernel_rfl) (by kernel_rfl) (fun _ _ _ h => h) (Or.inl ⟨by kernel_rfl, ?_⟩) ?_
                  rotate_left
                  · intro w'; go_simp; try with_reducible rfl
                  refine wpAny_ready (rs := [19, 21]) (by kernel_rfl) (by simp) ?_
                  refine AllReady.cons rfl (fun K hK => ?_) (AllReady.cons rfl (fun K hK => ?_) AllReady.nil)
                  · skip
                    go_simp
                    refine hK _ _ ?_
                    clear hK K
                    refine wpAny_ready (rs := [21]) (by kernel_rfl) (by simp) ?_
                    refine AllReady.cons rfl (fun K hK => ?_) AllReady.nil
                    go_simp
                    refine hK _ _ ?_
                    clear hK K
                    refine wpAny_take (i := 22) (v := ?_) rfl (by kernel_rfl) (by kernel_rfl) (by kernel_rfl) (fun _ _ _ h => h) (Or.inl ⟨by kernel_rfl, ?_⟩) ?_
                    rotate_left
                    · intro w'; go_simp; try with_reducible rfl
                    refine wpAny_take (i := 23) (v := ?_) rfl (by kernel_rfl) (by kernel_rfl) (by kernel_rfl) (fun _ _ _ h => h) (Or.inl ⟨by kernel_rfl, ?_⟩) ?_
                    rotate_left
                    · intro w'; go_simp; try with_reducible rfl
                    refine wpAny_take (i := 24) (v := ?_) rfl (by kernel_rfl) (by kernel_rfl) (by kernel_rfl) (fun _ _ _ h => h) (Or.inl ⟨by kernel_rfl, ?_⟩) ?_
                    rotate_left
                    · intro w'; go_simp; try with_reducible rfl
                    refine wpAny_done (by kernel_rfl) ?_ _
                    go_simp
                    exact key.out
                  · skip
                    go_simp
                    refine hK _ _ ?_
                    clear hK K
                    refine wpAny_ready (rs := [19]) (by kernel_rfl) (by simp) ?_
                    refine AllReady.cons rfl (fun K hK => ?_) AllReady.nil
                    go_simp
                    refine hK _ _ ?_
                    clear hK K
                    refine wpAny_take (i := 22) (v := ?_) rfl (by kernel_rfl) (by kernel_rfl) (by kernel_rfl) (fun _ _ _ h => h) (Or.inl ⟨by kernel_rfl, ?_⟩) ?_
                    rotate_left
                    · intro w'; go_simp; try with_reducible rfl
                    refine wpAny_take (i := 23) (v := ?_) rfl (by kernel_rfl) (by kernel_rfl) (by kernel_rfl) (fun _ _ _ h => h) (Or.inl ⟨by kernel_rfl, ?_⟩) ?_
                    rotate_left
                    · intro w'; go_simp; try with_reducible rfl
                    refine wpAny_take (i := 24) (v := ?_) rfl (by kernel_rfl) (by kernel_rfl) (by kernel_rfl) (fun _ _ _ h => h) (Or.inl ⟨by kernel_rfl, ?_⟩) ?_
                    rotate_left
                    · intro w'; go_simp; try with_reducible rfl
                    refine wpAny_done (by kernel_rfl) ?_ _
                    go_simp
                    exact key.out
                · skip
                  go_simp
                  refine hK _ _ ?_
                  clear hK K
                  refine wpAny_ready (rs := [17]) (by kernel_rfl) (by simp) ?_
                  refine AllReady.cons rfl (fun K hK => ?_) AllReady.nil
                  go_simp
                  refine hK _ _ ?_
                  clear hK K
                  refine wpAny_take (i := 18) (v := ?_) rfl (by kernel_rfl) (by kernel_rfl) (by kernel_rfl) (fun _ _ _ h => h) (Or.inl ⟨by kernel_rfl, ?_⟩) ?_
                  rotate_left
                  · intro w'; go_simp; try with_reducible rfl
                  refine wpAny_ready (rs := [19]) (by kernel_rfl) (by simp) ?_
                  refine AllReady.cons rfl (fun K hK => ?_) AllReady.nil
                  go_simp
                  refine hK _ _ ?_
                  clear hK K
                  refine wpAny_take (i := 22) (v := ?_) rfl (by kernel_rfl) (by kernel_rfl) (by kernel_rfl) (fun _ _ _ h => h) (Or.inl ⟨by kernel_rfl, ?_⟩) ?_
                  rotate_left
                  · intro w'; go_simp; try with_reducible rfl
                  refine wpAny_take (i := 23) (v := ?_) rfl (by kernel_rfl) (by kernel_rfl) (by kernel_rfl) (fun _ _ _ h => h) (Or.inl ⟨by kernel_rfl, ?_⟩) ?_
                  rotate_left
                  · intro w'; go_simp; try with_reducible rfl
                  refine wpAny_take (i := 24) (v := ?_) rfl (by kernel_rfl) (by kernel_rfl) (by kernel_rfl) (fun _ _ _ h => h) (Or.inl ⟨by kernel_rfl, ?_⟩) ?_
                  rotate_left
                  · intro w'; go_simp; try with_reducible rfl
                  refine wpAny_done (by kernel_rfl) ?_ _
                  go_simp
                  exact key.out
              go_wp2
              go_ret2
              exact ⟨by rw [HE.out]; rfl, HO2.out.trans ((Old.drewN w2 1).trans ho3)⟩
            | true =>
              have HY := Lib.hid (HYES.out.trans (by rw [HR.out, HRB.out] <;> rfl))
              clear HNO HYES
              go_upto_region 4 with (fail)
              refine wp_region_any (by kernel_rfl) ?_
              change wpAny _ _ _ _ _ _ _ (World.drew _)
              refine wpAny_take (i := 0) (v := ?_) rfl (by kernel_rfl) (by kernel_rfl) (by kernel_rfl) (fun _ _ _ h => h) (Or.inl ⟨by kernel_rfl, ?_⟩) ?_
              rotate_left
              · intro w'; go_simp; try with_reducible rfl
              refine wpAny_ready (rs := [1]) (by kernel_rfl) (by simp) ?_
              refine AllReady.cons rfl (fun K hK => ?_) AllReady.nil
              go_simp
              refine hK _ _ ?_
              clear hK K
              refine wpAny_ready (rs := [2]) (by kernel_rfl) (by simp) ?_
              refine AllReady.cons rfl (fun K hK => ?_) AllReady.nil
              go_simp
              go_wp2_with ((with_reducible refine HN.out.mono ?_); rintro e w3 ⟨rfl, ho3⟩)
              have hl3 : wr.heap.size < w2.heap.size := by have := World.block_lt_of_cell? _ _ d2; simpa using this
              have d2' := (ho3.cell (p := ⟨wr.heap.size, 2, none⟩) hl3).trans d2
              have d0' := (ho3.cell (p := ⟨wr.heap.size, 0, none⟩) hl3).trans d0
              have hp1 := (ho3.cell (p := ⟨b, off + (k - 1) * 3, none⟩) (by show b < w2.heap.size; omega)).trans ((ho2.cell (p := ⟨b, off + (k - 1) * 3, none⟩) hb).trans hp0)
              refine wpAny_take (i := 3) (v := ?_) rfl (by kernel_rfl) (by kernel_rfl) (by kernel_rfl) (fun _ _ _ h => h) (Or.inl ⟨by kernel_rfl, ?_⟩) ?_
              rotate_left
              · intro w'; go_simp; try with_reducible rfl
              refine wpAny_take (i := 4) (v := ?_) rfl (by kernel_rfl) (by kernel_rfl) (by kernel_rfl) (fun _ _ _ h => h) (Or.inl ⟨by kernel_rfl, ?_⟩) ?_
              rotate_left
              · intro w'; go_simp; try with_reducible rfl
              refine wpAny_take (i := 5) (v := ?_) rfl (by kernel_rfl) (by kernel_rfl) (by kernel_rfl) (fun _ _ _ h => h) (Or.inl ⟨by kernel_rfl, ?_⟩) ?_
              rotate_left
              · intro w'; go_simp; try with_reducible rfl
              refine wpAny_ready (rs := [6]) (by kernel_rfl) (by simp) ?_
              refine AllReady.cons rfl (fun K hK => ?_) AllReady.nil
              go_simp
              refine hK _ _ ?_
              clear hK K
              refine wpAny_take (i := 7) (v := ?_) rfl (by kernel_rfl) (by kernel_rfl) (by kernel_rfl) (fun _ _ _ h => h) (Or.inl ⟨by kernel_rfl, ?_⟩) ?_
              rotate_left
              · intro w'; go_simp; try with_reducible rfl
              refine wpAny_take (i := 8) (v := ?_) rfl (by kernel_rfl) (by kernel_rfl) (by kernel_rfl) (fun _ _ _ h => h) (Or.inl ⟨by kernel_rfl, ?_⟩) ?_
              rotate_left
              · intro w'; go_simp; try with_reducible rfl
              refine wpAny_take (i := 9) (v := ?_) rfl (by kernel_rfl) (by kernel_rfl) (by kernel_rfl) (fun _ _ _ h => h) (Or.inl ⟨by kernel_rfl, ?_⟩) ?_
              rotate_left
              · intro w'; go_simp; try with_reducible rfl
              refine wpAny_take (i := 10) (v := ?_) rfl (by kernel_rfl) (by kernel_rfl) (by kernel_rfl) (fun _ _ _ h => h) (Or.inl ⟨by kernel_rfl, ?_⟩) ?_
              rotate_left
              · intro w'; go_simp; try with_reducible rfl
              refine wpAny_take (i := 11) (v := ?_) rfl (by kernel_rfl) (by kernel_rfl) (by kernel_rfl) (fun _ _ _ h => h) (Or.inl ⟨by kernel_rfl, ?_⟩) ?_
              rotate_left
              · intro w'; go_simp; try with_reducible rfl
              refine wpAny_take (i := 12) (v := ?_) rfl (by kernel_rfl) (by kernel_rfl) (by kernel_rfl) (fun _ _ _ h => h) (Or.inl ⟨by kernel_rfl, ?_⟩) ?_
              rotate_left
              · intro w'; go_simp; try with_reducible rfl
              refine wpAny_take (i := 13) (v := ?_) rfl (by kernel_rfl) (by kernel_rfl) (by kernel_rfl) (fun _ _ _ h => h) (Or.inl ⟨by kernel_rfl, ?_⟩) ?_
              rotate_left
              · intro w'; go_simp; try with_reducible rfl
              refine wpAny_take (i := 14) (v := ?_) rfl (by kernel_rfl) (by kernel_rfl) (by kernel_rfl) (fun _ _ _ h => h) (Or.inl ⟨by kernel_rfl, ?_⟩) ?_
              rotate_left
              · intro w'; go_simp; try with_reducible rfl
              refine wpAny_take (i := 15) (v := ?_) rfl (by kernel_rfl) (by kernel_rfl) (by kernel_rfl) (fun _ _ _ h => h) (Or.inl ⟨by kernel_rfl, ?_⟩) ?_
              rotate_left
              · intro w'; go_simp; try with_reducible rfl
              refine wpAny_take (i := 16) (v := ?_) rfl (by kernel_rfl) (by kernel_rfl) (by kernel_rfl) (fun _ _ _ h => h) (Or.inl ⟨by kernel_rfl, ?_⟩) ?_
              rotate_left
              · intro w'; go_simp; try with_reducible rfl
              refine wpAny_take (i := 20) (v := ?_) rfl (by kernel_rfl) (by kernel_rfl) (by kernel_rfl) (fun _ _ _ h => h) (Or.inl ⟨by kernel_rfl, ?_⟩) ?_
              rotate_left
              · intro w'; go_simp; try with_reducible rfl
              apply cut_here
              · intro key
                refine wpAny_ready (rs := [17, 21]) (by kernel_rfl) (by simp) ?_
                refine AllReady.cons rfl (fun K hK => ?_) (AllReady.cons rfl (fun K hK => ?_) AllReady.nil)
                · skip
                  go_simp
                  refine hK _ _ ?_
                  clear hK K
                  refine wpAny_take (i := 18) (v := ?_) rfl (by kernel_rfl) (by kernel_rfl) (by kernel_rfl) (fun _ _ _ h => h) (Or.inl ⟨by kernel_rfl, ?_⟩) ?_
                  rotate_left
                  · intro w'; go_simp; try with_reducible rfl
                  refine wpAny_ready (rs := [19, 21]) (by kernel_rfl) (by simp) ?_
                  refine AllReady.cons rfl (fun K hK => ?_) (AllReady.cons rfl (fun K hK => ?_) AllReady.nil)
                  · skip
                    go_simp
                    refine hK _ _ ?_
                    clear hK K
                    refine wpAny_ready (rs := [21]) (by kernel_rfl) (by simp) ?_
                    refine AllReady.cons rfl (fun K hK => ?_) AllReady.nil
                    go_simp
                    refine hK _ _ ?_
                    clear hK K
                    refine wpAny_take (i := 22) (v := ?_) rfl (by kernel_rfl) (by kernel_rfl) (by kernel_rfl) (fun _ _ _ h => h) (Or.inl ⟨by kernel_rfl, ?_⟩) ?_
                    rotate_left
                    · intro w'; go_simp; try with_reducible rfl
                    refine wpAny_take (i := 23) (v := ?_) rfl (by kernel_rfl) (by kernel_rfl) (by kernel_rfl) (fun _ _ _ h => h) (Or.inl ⟨by kernel_rfl, ?_⟩) ?_
                    rotate_left
                    · intro w'; go_simp; try with_reducible rfl
                    refine wpAny_take (i := 24) (v := ?_) rfl (by kernel_rfl) (by kernel_rfl) (by kernel_rfl) (fun _ _ _ h => h) (Or.inl ⟨by kernel_rfl, ?_⟩) ?_
                    rotate_left
                    · intro w'; go_simp; try with_reducible rfl
                    refine wpAny_done (by kernel_rfl) ?_ _
                    go_simp
                    exact key.out
                  · skip
                    go_simp
                    refine hK _ _ ?_
                    clear hK K
                    refine wpAny_ready (rs := [19]) (by kernel_rfl) (by simp) ?_
                    refine AllReady.cons rfl (fun K hK => ?_) AllReady.nil
                    go_simp
                    refine hK _ _ ?_
                    clear hK K
                    refine wpAny_take (i := 22) (v := ?_) rfl (by kernel_rfl) (by kernel_rfl) (by kernel_rfl) (fun _ _ _ h => h) (Or.inl ⟨by kernel_rfl, ?_⟩) ?_
                    rotate_left
                    · intro w'; go_simp; try with_reducible rfl
                    refine wpAny_take (i := 23) (v := ?_) rfl (by kernel_rfl) (by kernel_rfl) (by kernel_rfl) (fun _ _ _ h => h) (Or.inl ⟨by kernel_rfl, ?_⟩) ?_
                    rotate_left
                    · intro w'; go_simp; try with_reducible rfl
                    refine wpAny_take (i := 24) (v := ?_) rfl (by kernel_rfl) (by kernel_rfl) (by kernel_rfl) (fun _ _ _ h => h) (Or.inl ⟨by kernel_rfl, ?_⟩) ?_
                    rotate_left
                    · intro w'; go_simp; try with_reducible rfl
                    refine wpAny_done (by kernel_rfl) ?_ _
                    go_simp
                    exact key.out
                · skip
                  go_simp
                  refine hK _ _ ?_
                  clear hK K
                  refine wpAny_ready (rs := [17]) (by kernel_rfl) (by simp) ?_
                  refine AllReady.cons rfl (fun K hK => ?_) AllReady.nil
                  go_simp
                  refine hK _ _ ?_
                  clear hK K
                  refine wpAny_take (i := 18) (v := ?_) rfl (by kernel_rfl) (by kernel_rfl) (by kernel_rfl) (fun _ _ _ h => h) (Or.inl ⟨by kernel_rfl, ?_⟩) ?_
                  rotate_left
                  · intro w'; go_simp; try with_reducible rfl
                  refine wpAny_ready (rs := [19]) (by kernel_rfl) (by simp) ?_
                  refine AllReady.cons rfl (fun K hK => ?_) AllReady.nil
                  go_simp
                  refine hK _ _ ?_
                  clear hK K
                  refine wpAny_take (i := 22) (v := ?_) rfl (by kernel_rfl) (by kernel_rfl) (by kernel_rfl) (fun _ _ _ h => h) (Or.inl ⟨by kernel_rfl, ?_⟩) ?_
                  rotate_left
                  · intro w'; go_simp; try with_reducible rfl
                  refine wpAny_take (i := 23) (v := ?_) rfl (by kernel_rfl) (by kernel_rfl) (by kernel_rfl) (fun _ _ _ h => h) (Or.inl ⟨by kernel_rfl, ?_⟩) ?_
                  rotate_left
                  · intro w'; go_simp; try with_reducible rfl
                  refine wpAny_take (i := 24) (v := ?_) rfl (by kernel_rfl) (by kernel_rfl) (by kernel_rfl) (fun _ _ _ h => h) (Or.inl ⟨by kernel_rfl, ?_⟩) ?_
                  rotate_left
                  · intro w'; go_simp; try with_reducible rfl
                  refine wpAny_done (by kernel_rfl) ?_ _
                  go_simp
                  exact key.out
              go_wp2
              go_roundw
              case rel => exact ⟨k + 1, by omega, by go_num, HY.out, HO2.out.trans ((Old.drewN w2 1).trans ho3)⟩
              case measure => simp [intOf]; omega
        · have hz : ((g.length : Int) != 32) = true := by rw [bne_iff_ne]; omega
          have HE := Lib.hid (HNO.out (by rw [HRA.out, decide_eq_false hg] <;> rfl))
          clear HNO HYES HRA HS HC
          go_upto_region 4 with (fail)
          refine wp_region_any (by kernel_rfl) ?_
          change wpAny _ _ _ _ _ _ _ (World.drew _)
          refine wpAny_take (i := 0) (v := ?_) rfl (by kernel_rfl) (by kernel_rfl) (by kernel_rfl) (fun _ _ _ h => h) (Or.inl ⟨by kernel_rfl, ?_⟩) ?_
          rotate_left
          · intro w'; go_simp; try with_reducible rfl
          refine wpAny_ready (rs := [1]) (by kernel_rfl) (by simp) ?_
          refine AllReady.cons rfl (fun K hK => ?_) AllReady.nil
          go_simp
          refine hK _ _ ?_
          clear hK K
          refine wpAny_ready (rs := [2]) (by kernel_rfl) (by simp) ?_
          refine AllReady.cons rfl (fun K hK => ?_) AllReady.nil
          go_simp
          go_wp2_with ((with_reducible refine HN.out.mono ?_); rintro e w3 ⟨rfl, ho3⟩)
          have hl3 : wr.heap.size < w2.heap.size := by have := World.block_lt_of_cell? _ _ d2; simpa using this
          have d2' := (ho3.cell (p := ⟨wr.heap.size, 2, none⟩) hl3).trans d2
          refine wpAny_take (i := 3) (v := ?_) rfl (by kernel_rfl) (by kernel_rfl) (by kernel_rfl) (fun _ _ _ h => h) (Or.inl ⟨by kernel_rfl, ?_⟩) ?_
          rotate_left
          · intro w'; go_simp; try with_reducible rfl
          refine wpAny_take (i := 4) (v := ?_) rfl (by kernel_rfl) (by kernel_rfl) (by kernel_rfl) (fun _ _ _ h => h) (Or.inl ⟨by kernel_rfl, ?_⟩) ?_
          rotate_left
          · intro w'; go_simp; try with_reducible rfl
          refine wpAny_take (i := 5) (v := ?_) rfl (by kernel_rfl) (by kernel_rfl) (by kernel_rfl) (fun _ _ _ h => h) (Or.inl ⟨by kernel_rfl, ?_⟩) ?_
          rotate_left
          · intro w'; go_simp; try with_reducible rfl
          refine wpAny_ready (rs := [6]) (by kernel_rfl) (by simp) ?_
          refine AllReady.cons rfl (fun K hK => ?_) AllReady.nil
          go_simp
          refine hK _ _ ?_
          clear hK K
          refine wpAny_take (i := 7) (v := ?_) rfl (by kernel_rfl) (by kernel_rfl) (by kernel_rfl) (fun _ _ _ h => h) (Or.inl ⟨by kernel_rfl, ?_⟩) ?_
          rotate_left
          · intro w'; go_simp; try with_reducible rfl
          refine wpAny_take (i := 8) (v := ?_) rfl (by kernel_rfl) (by kernel_rfl) (by kernel_rfl) (fun _ _ _ h => h) (Or.inl ⟨by kernel_rfl, ?_⟩) ?_
          rotate_left
          · intro w'; go_simp; try with_reducible rfl
          refine wpAny_take (i := 9) (v := ?_) rfl (by kernel_rfl) (by kernel_rfl) (by kernel_rfl) (fun _ _ _ h => h) (Or.inl ⟨by kernel_rfl, ?_⟩) ?_
          rotate_left
          · intro w'; go_simp; try with_reducible rfl
          refine wpAny_take (i := 10) (v := ?_) rfl (by kernel_rfl) (by kernel_rfl) (by kernel_rfl) (fun _ _ _ h => h) (Or.inl ⟨by kernel_rfl, ?_⟩) ?_
          rotate_left
          · intro w'; go_simp; try with_reducible rfl
          refine wpAny_take (i := 11) (v := undef) rfl (by kernel_rfl) (by kernel_rfl) (by kernel_rfl) (fun _ _ _ h => h) (Or.inr ⟨by kernel_rfl, rfl⟩) ?_
          refine wpAny_take (i := 12) (v := undef) rfl (by kernel_rfl) (by kernel_rfl) (by kernel_rfl) (fun _ _ _ h => h) (Or.inr ⟨by kernel_rfl, rfl⟩) ?_
          refine wpAny_take (i := 13) (v := undef) rfl (by kernel_rfl) (by kernel_rfl) (by kernel_rfl) (fun _ _ _ h => h) (Or.inr ⟨by kernel_rfl, rfl⟩) ?_
          refine wpAny_take (i := 14) (v := undef) rfl (by kernel_rfl) (by kernel_rfl) (by kernel_rfl) (fun _ _ _ h => h) (Or.inr ⟨by kernel_rfl, rfl⟩) ?_
          refine wpAny_take (i := 15) (v := undef) rfl (by kernel_rfl) (by kernel_rfl) (by kernel_rfl) (fun _ _ _ h => h) (Or.inr ⟨by kernel_rfl, rfl⟩) ?_
          refine wpAny_take (i := 16) (v := undef) rfl (by kernel_rfl) (by kernel_rfl) (by kernel_rfl) (fun _ _ _ h => h) (Or.inr ⟨by kernel_rfl, rfl⟩) ?_
          refine wpAny_take (i := 17) (v := undef) rfl (by kernel_rfl) (by kernel_rfl) (by kernel_rfl) (fun _ _ _ h => h) (Or.inr ⟨by kernel_rfl, rfl⟩) ?_
          refine wpAny_take (i := 18) (v := undef) rfl (by kernel_rfl) (by kernel_rfl) (by kernel_rfl) (fun _ _ _ h => h) (Or.inr ⟨by kernel_rfl, rfl⟩) ?_
          refine wpAny_take (i := 19) (v := undef) rfl (by kernel_rfl) (by kernel_rfl) (by kernel_rfl) (fun _ _ _ h => h) (Or.inr ⟨by kernel_rfl, rfl⟩) ?_
          refine wpAny_take (i := 20) (v := undef) rfl (by kernel_rfl) (by kernel_rfl) (by kernel_rfl) (fun _ _ _ h => h) (Or.inr ⟨by kernel_rfl, rfl⟩) ?_
          refine wpAny_take (i := 21) (v := undef) rfl (by kernel_rfl) (by kernel_rfl) (by kernel_rfl) (fun _ _ _ h => h) (Or.inr ⟨by kernel_rfl, rfl⟩) ?_
          refine wpAny_take (i := 22) (v := undef) rfl (by kernel_rfl) (by kernel_rfl) (by kernel_rfl) (fun _ _ _ h => h) (Or.inr ⟨by kernel_rfl, rfl⟩) ?_
          refine wpAny_take (i := 23) (v := undef) rfl (by kernel_rfl) (by kernel_rfl) (by kernel_rfl) (fun _ _ _ h => h) (Or.inr ⟨by kernel_rfl, rfl⟩) ?_
          refine wpAny_take (i := 24) (v := ?_) rfl (by kernel_rfl) (by kernel_rfl) (by kernel_rfl) (fun _ _ _ h => h) (Or.inl ⟨by kernel_rfl, ?_⟩) ?_
          rotate_left
          · intro w'; go_simp; try with_reducible rfl
          refine wpAny_done (by kernel_rfl) ?_ _
          go_simp
          go_wp2
          go_ret2
          exact ⟨by rw [HE.out]; rfl, HO2.out.trans ((Old.drewN w2 1).trans ho3)⟩
    · obtain rfl : k = es.length := by omega
      rw [List.take_length] at HR
      have HW := Lib.hid (write_any (.slice pp es.length cap) es wr (HT.out.old HO.out) (H.out.old HO.out) (by unfold maxLen; omega) (by have := bytes_len (right_all HR.out); omega))
      go_wp2_with ((with_reducible refine HW.out.mono ?_); rintro e w1 ⟨rfl, ho1⟩)
      go_ret2
      exact ⟨by rw [right_yes HR.out]; rfl, HO.out.trans ho1⟩
end Go.Proofs.YtabcobadglgfkaaGreatDoor

/- The closure that goes through directories. -/
namespace Go.Proofs.YtabcobadglgfkaaGreatDoor
open Go.RowKit

variable {Foot : World → Nat → Prop} {I : List (List M.En) → World → Prop}

/-- Entries that are not too many, none too great. -/
def Neat (es : List M.En) : Prop := es.length ≤ 1000000 ∧ ∀ e ∈ es, e.1.length ≤ 1000000 ∧ e.2.2.length = 32
theorem entry_neat (fs : List M.Fi) (n : List UInt8) : (M.entry fs n).1 = n ∧ (M.entry fs n).2.2.length = 32 := by
  unfold M.entry
  split
  · exact ⟨rfl, M.len_sum _⟩
  · exact ⟨rfl, M.len_sum _⟩
theorem name_tame {fs : List M.Fi} (h : Tame fs) {n : List UInt8} (hn : n ∈ M.names fs) : n.length ≤ 1000000 := by
  obtain ⟨f, hf, rfl⟩ := M.mem_names.1 hn
  exact Nat.le_trans (List.takeWhile_sublist _).length_le (h.2 f hf).1
theorem neat_dir {fs : List M.Fi} (h : Tame fs) : Neat (M.dir fs) := by
  refine ⟨Nat.le_trans (M.dir_len fs) h.1, fun e he => ?_⟩
  rw [M.dir_eq] at he
  obtain ⟨n, hn, rfl⟩ := List.mem_map.1 he
  obtain ⟨h1, h2⟩ := entry_neat fs n
  rw [h1]
  exact ⟨name_tame h hn, h2⟩
theorem neat_bytes1 {e : M.En} (h1 : e.1.length ≤ 1000000) (h2 : e.2.2.length = 32) : (M.enBytes e).length ≤ 1000200 := by
  have p1 := M.pack_len e.1 (by omega)
  have p2 := M.pack_len (M.mark e.2.1) (by simp [M.mark])
  have p3 := M.pack_len e.2.2 (by omega)
  have hm : (M.mark e.2.1).length = 1 := rfl
  have hp : (M.packs [e.1, M.mark e.2.1, e.2.2]).length ≤ 1000120 := by
    simp only [M.packs, List.map_cons, List.map_nil, List.flatten_cons, List.flatten_nil, List.append_nil, List.length_append]
    omega
  have p4 := M.pack_len (M.packs [e.1, M.mark e.2.1, e.2.2]) (by omega)
  unfold M.enBytes
  omega
theorem neat_bytes2 : ∀ {es : List M.En}, (∀ e ∈ es, e.1.length ≤ 1000000 ∧ e.2.2.length = 32) → (M.bytes es).length ≤ 1000200 * es.length
  | [], _ => by simp [M.bytes_nil]
  | e :: r, h => by
      have h0 := h e (by simp)
      have h1 := neat_bytes1 h0.1 h0.2
      have h2 := neat_bytes2 (es := r) (fun x hx => h x (by simp [hx]))
      rw [M.bytes_cons, List.length_append, List.length_cons]
      omega
theorem Neat.bytes {es : List M.En} (h : Neat es) : (M.bytes es).length ≤ 1099511627776 := by
  have h1 := neat_bytes2 h.2
  have h2 := h.1
  omega
theorem tame_under {fs : List M.Fi} (h : Tame fs) (n : List UInt8) : Tame (M.under fs n) := by
  refine ⟨?_, fun f hf => ?_⟩
  · have : (M.under fs n).length ≤ fs.length := by
      unfold M.under
      rw [List.length_map]
      exact List.length_filter_le _ _
    have := h.1; omega
  · obtain ⟨g, hg, h1, h2⟩ := M.under_short hf
    have := h.2 g hg
    rw [h2]; exact ⟨by omega, this.2⟩
theorem tame_grp {fs : List M.Fi} (h : Tame fs) (n : List UInt8) : Tame (M.grp fs n) :=
  ⟨Nat.le_trans (List.length_filter_le _ _) h.1, fun f hf => h.2 f (List.mem_filter.1 hf).1⟩

/-- What a function that is handed on does with what it is told. -/
def Visits (Foot : World → Nat → Prop) (I : List (List M.En) → World → Prop) (N g : Nat) (cb : Array Value) : Prop :=
  ∀ s v es W, s.length < N → I s W → Env W → El W v es → Neat es → (∀ b, v.ownBlock = some b → Safe Foot W b) → Calls Tryz.prog g (#[v] ++ cb) W fun e w' => e = .returned (.tuple #[]) ∧ I (s ++ [es]) w' ∧ Vis Foot W w'
/-- The closure's own box, and the box of what it was handed. -/
structure Boxes (Foot : World → Nat → Prop) (W : World) (pe pv : Nat) (g : Nat) (cb : Array Value) : Prop where
  ce : W.cell? ⟨pe, 0, none⟩ = some (.func (.func 70) #[] #[.pointer (some ⟨pe, 0, none⟩), .pointer (some ⟨pv, 0, none⟩)])
  cv : W.cell? ⟨pv, 0, none⟩ = some (.func (.func g) #[] cb)
  se : Safe Foot W pe
  sv : Safe Foot W pv
theorem Boxes.vis {w w' : World} {pe pv g : Nat} {cb : Array Value} (h : Boxes Foot w pe pv g cb) (k : Vis Foot w w') : Boxes Foot w' pe pv g cb :=
  ⟨(k.cell (p := ⟨pe, 0, none⟩) h.se).trans h.ce, (k.cell (p := ⟨pv, 0, none⟩) h.sv).trans h.cv, k.safe h.se, k.safe h.sv⟩

/-- What the closure leaves. -/
def EnterPost (Foot : World → Nat → Prop) (I : List (List M.En) → World → Prop) (s : List (List M.En)) (fs : List M.Fi) (W : World) (e : Ending) (w' : World) : Prop :=
  ∃ u, e = .returned u ∧ El w' u (M.dir fs) ∧ (∀ b, u.ownBlock = some b → Safe Foot w' b) ∧ I (s ++ M.all fs) w' ∧ Vis Foot W w'
def seenOf (fs : List M.Fi) (l : List (List UInt8)) : List (List M.En) := l.flatMap fun n => if (M.get fs n).2 = true then [] else M.all (M.under fs n)
theorem seen_snoc (fs : List M.Fi) (l : List (List UInt8)) (n : List UInt8) : seenOf fs (l ++ [n]) = seenOf fs l ++ if (M.get fs n).2 = true then [] else M.all (M.under fs n) := by simp [seenOf]
theorem all_seen (fs : List M.Fi) : M.all fs = seenOf fs (M.names fs) ++ [M.dir fs] := M.all_eq fs
theorem seen_take (fs : List M.Fi) (l : List (List UInt8)) (k : Nat) : (seenOf fs (l.take k)).length ≤ (seenOf fs l).length := by
  conv => rhs; rw [← List.take_append_drop k l]
  unfold seenOf
  rw [List.flatMap_append, List.length_append]
  omega
theorem seen_le {fs : List M.Fi} {j : Nat} (h : j < (M.names fs).length) : (M.get fs (M.names fs)[j]).2 = false → (seenOf fs ((M.names fs).take j)).length + (M.all (M.under fs (M.names fs)[j])).length < (M.all fs).length := by
  intro hg
  have h1 := seen_take fs (M.names fs) (j + 1)
  rw [List.take_succ_eq_append_getElem h] at h1
  have e : seenOf fs ((M.names fs).take j ++ [(M.names fs)[j]]) = seenOf fs ((M.names fs).take j) ++ M.all (M.under fs (M.names fs)[j]) := by rw [seen_snoc, hg]; rfl
  rw [e, List.length_append] at h1
  rw [all_seen fs, List.length_append, List.length_singleton]
  omega
end Go.Proofs.YtabcobadglgfkaaGreatDoor
