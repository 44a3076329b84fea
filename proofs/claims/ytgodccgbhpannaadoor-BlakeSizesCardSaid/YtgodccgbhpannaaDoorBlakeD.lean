/- The program's pressing of a block. -/
import Derived.Test.YtgodccgbhpannaaDoorBlakeC
import Derived.Deep.WholeRow
import Derived.Laws.CopyOwn
import Derived.Deep.RegionLaw
import Derived.Deep.CutBlock
namespace Go.Proofs.YtgodccgbhpannaaDoor
open Go.RowKit

/-- The two tables that the program reads. -/
def Tabs (w : World) : Prop := w.var? Tryd.prog "trestle/blake.initial" = some (c32 M.iv) ∧ w.var? Tryd.prog "trestle/blake.orders" = some (c8 M.orders.flatten)
theorem num_initial : Tryd.prog.globalNamed "trestle/blake.initial" = some 0 := by kernel_rfl
theorem num_orders : Tryd.prog.globalNamed "trestle/blake.orders" = some 1 := by kernel_rfl
theorem Tabs.keep {S : Nat → Prop} {w w' : World} (h : Tabs w) (k : Keep S w w') (h0 : ¬ S 0) (h1 : ¬ S 1) : Tabs w' :=
  ⟨var_old num_initial h.1 (fun hl => k.block _ hl h0), var_old num_orders h.2 (fun hl => k.block _ hl h1)⟩
theorem Tabs.old {w w' : World} (h : Tabs w) (k : Old w w') : Tabs w' := h.keep (Keep.of_old (S := fun _ => False) k) (fun h => h) (fun h => h)
theorem var_block {w : World} {name : String} {g : Nat} {x : Array Value} (hg : Tryd.prog.globalNamed name = some g) (h : w.var? Tryd.prog name = some x) : ∃ t fr, w.heap[g]? = some (.cells x t fr) := by
  unfold World.var? at h
  rw [hg] at h
  simp only [Option.bind_some] at h
  split at h
  · rename_i cs t fr hc
    obtain rfl := Option.some.inj h
    exact ⟨t, fr, hc⟩
  · cases h
theorem Tabs.lt {w : World} (h : Tabs w) : 2 ≤ w.heap.size := by
  obtain ⟨t, fr, hb⟩ := var_block num_orders h.2
  have := (Array.getElem?_eq_some_iff.1 hb).1
  have e : 1 = 1 := rfl
  omega
theorem size8 : (Tryd.prog.info? 29).map (·.size) = some 8 := by kernel_rfl
theorem size16 : (Tryd.prog.info? 32).map (·.size) = some 16 := by kernel_rfl
theorem size16b : (Tryd.prog.info? 40).map (·.size) = some 16 := by kernel_rfl
theorem size160 : (Tryd.prog.info? 41).map (·.size) = some 160 := by kernel_rfl
theorem size1 : (Tryd.prog.info? 28).map (·.size) = some 1 := by kernel_rfl
theorem c32_size (v : List Nat) : (c32 v).size = v.length := by simp [c32]
theorem c8_size (v : List Nat) : (c8 v).size = v.length := by simp [c8]
theorem one32 (v : List Nat) : ∀ x ∈ (c32 v).toList, x.oneCell' = true := by
  intro x hx
  simp only [c32, List.mem_map] at hx
  obtain ⟨n, _, rfl⟩ := hx
  rfl
theorem four_blocks (w : World) (x y : Array Value) : ∃ w4 bm br bv, ((((w.alloc (.cells x 29)).alloc (.cells y 32)).alloc (.cells #[.int .u32 0, .int .u32 0, .int .u32 0, .int .u32 0, .int .u32 0, .int .u32 0, .int .u32 0, .int .u32 0] 29)).alloc (.cells #[.int .u32 0, .int .u32 0, .int .u32 0, .int .u32 0, .int .u32 0, .int .u32 0, .int .u32 0, .int .u32 0, .int .u32 0, .int .u32 0, .int .u32 0, .int .u32 0, .int .u32 0, .int .u32 0, .int .u32 0, .int .u32 0] 32)) = w4 ∧
    w.heap.size + 1 = bm ∧ bm + 1 = br ∧ br + 1 = bv ∧ w4.heap.size = bv + 1 ∧ Old w w4 ∧ Blk w4 w.heap.size x 29 ∧ Blk w4 bm y 32 ∧ Blk w4 br (c32 [0, 0, 0, 0, 0, 0, 0, 0]) 29 ∧ Blk w4 bv (c32 [0, 0, 0, 0, 0, 0, 0, 0, 0, 0, 0, 0, 0, 0, 0, 0]) 32 := by
  refine ⟨_, _, _, _, rfl, rfl, rfl, rfl, by simp, ?_, ?_, ?_, ?_, ?_⟩
  · exact Below.alloc (Below.alloc (Below.alloc (Old.alloc w _) (by simp) _) (by simp; omega) _) (by simp; omega) _
  · exact (((Blk.new w x _).alloc _).alloc _).alloc _
  · have := ((Blk.new (w.alloc (.cells x 29)) y 32).alloc (.cells #[.int .u32 0, .int .u32 0, .int .u32 0, .int .u32 0, .int .u32 0, .int .u32 0, .int .u32 0, .int .u32 0] 29)).alloc (.cells #[.int .u32 0, .int .u32 0, .int .u32 0, .int .u32 0, .int .u32 0, .int .u32 0, .int .u32 0, .int .u32 0, .int .u32 0, .int .u32 0, .int .u32 0, .int .u32 0, .int .u32 0, .int .u32 0, .int .u32 0, .int .u32 0] 32)
    simp at this
    exact this
  · have := (Blk.new ((w.alloc (.cells x 29)).alloc (.cells y 32)) #[.int .u32 0, .int .u32 0, .int .u32 0, .int .u32 0, .int .u32 0, .int .u32 0, .int .u32 0, .int .u32 0] 29).alloc (.cells #[.int .u32 0, .int .u32 0, .int .u32 0, .int .u32 0, .int .u32 0, .int .u32 0, .int .u32 0, .int .u32 0, .int .u32 0, .int .u32 0, .int .u32 0, .int .u32 0, .int .u32 0, .int .u32 0, .int .u32 0, .int .u32 0] 32)
    simp at this
    exact this
  · have := Blk.new (((w.alloc (.cells x 29)).alloc (.cells y 32)).alloc (.cells #[.int .u32 0, .int .u32 0, .int .u32 0, .int .u32 0, .int .u32 0, .int .u32 0, .int .u32 0, .int .u32 0] 29)) #[.int .u32 0, .int .u32 0, .int .u32 0, .int .u32 0, .int .u32 0, .int .u32 0, .int .u32 0, .int .u32 0, .int .u32 0, .int .u32 0, .int .u32 0, .int .u32 0, .int .u32 0, .int .u32 0, .int .u32 0, .int .u32 0] 32
    simp at this
    exact this
theorem splice_head {α : Type} (L c : List α) : Go.splice L 0 c = c ++ L.drop c.length := by simp [Go.splice]

theorem add_at (b j : Nat) : (⟨b, 0, none⟩ : Addr).add j = ⟨b, j, none⟩ := by unfold Addr.add; split <;> simp_all
theorem copy_eight (w : World) (bv bh : Nat) (v h : List Nat) (T T' : TypeId) (hl : h.length = 8) (hv : v.length = 16) (Hv : Blk w bv (c32 v) T) (Hh : Blk w bh (c32 h) T') :
    (Builtin.copy_ #[39, 39] 3 #[.slice (some ⟨bv, 0, none⟩) 16 16, .slice (some ⟨bh, 0, none⟩) 8 8]).run Tryd.prog w = .ok (goInt 8) (w.setRow bv (c32 (h ++ v.drop 8))) := by
  have hlen : (c32 h).toList.length = 8 := by rw [Array.length_toList, c32_size, hl]
  have := run_copy_row (P := Tryd.prog) w 39 39 3 28 bv 0 16 16 ⟨bh, 0, none⟩ 8 8 (c32 v) T (c32 h).toList Tryd.underlying39 size1 Hv hlen
    (fun j x hx => by rw [add_at, Hh.cell j]; simpa using hx) (by rw [hlen, c32_size, hv]; decide) (one32 h)
  rw [this, hlen]
  congr 2
  simp [c32]
theorem Blk.setRow {w : World} {b : Nat} {vs : Array Value} {T : TypeId} (h : Blk w b vs T) (cs : Array Value) : Blk (w.setRow b cs) b cs T := setRow_heap w b vs cs T _ h
theorem Keep.setRow {S : Nat → Prop} {a w : World} (h : Keep S a w) {b : Nat} (hb : a.heap.size ≤ b ∨ S b) (cs : Array Value) : Keep S a (w.setRow b cs) :=
  ⟨h.os, h.tape, h.output, by rw [setRow_size]; exact h.size, fun k hk hs => (setRow_other w b k cs (by rintro rfl; rcases hb with hb | hb; omega; exact hs hb)).trans (h.block k hk hs)⟩

theorem index_num (t : TypeId) (n : Nat) (v : List Nat) (k : Nat) (hu : Tryd.prog.underlying t = some (.array n 28)) (hk : k < n) (hv : v.length = n) (w : World) :
    (Instr.index t (.agg (c32 v)) (.int .i64 k)).run Tryd.prog w = .ok (.int .u32 (M.gt v k : Nat)) w := by
  have hc := c32_at (v := v) (i := k) (by omega)
  simp [Instr.index, asIntOf, run_underlying hu, hk, part, hc, Tryd.isAgg28, Tryd.sizeOf28]
theorem rows_list : ∀ k < 10, (M.orders.flatten.drop (k * 16)).take 16 = M.orders.getD k [] := by decide +kernel
theorem rows_at (k : Nat) (hk : k < 10) : (c8 M.orders.flatten).extract (k * 16) (k * 16 + 16) = c8 (M.orders.getD k []) := by
  rw [← rows_list k hk, c8, List.extract_toArray, List.extract_eq_take_drop, ← List.map_drop, ← List.map_take, Nat.add_sub_cancel_left]
  rfl
theorem index_row (k : Nat) (hk : k < 10) (w : World) :
    (Instr.index 41 (.agg (c8 M.orders.flatten)) (.int .i64 k)).run Tryd.prog w = .ok (.agg (c8 (M.orders.getD k []))) w := by
  have hc := rows_at k hk
  rw [← hc]
  simp [Instr.index, asIntOf, run_underlying Tryd.underlying41, hk, part, Tryd.isAgg40, Tryd.sizeOf40]
theorem iv_step : ∀ k < 8, (M.iv.take k ++ List.replicate (8 - k) 0).set k (M.gt M.iv k) = M.iv.take (k + 1) ++ List.replicate (8 - (k + 1)) 0 := by decide +kernel

def s1 (v : List Nat) (n : Nat) : List Nat := v.set 12 (M.gt v 12 ^^^ n % 4294967296)
def s2 (v : List Nat) (n : Nat) : List Nat := v.set 13 (M.gt v 13 ^^^ n / 4294967296 % 4294967296)
def s3 (v : List Nat) : List Nat := v.set 14 (M.gt v 14 ^^^ 4294967295)
theorem start_false (h : List Nat) (n : Nat) : M.start h n false = s2 (s1 (h ++ M.iv) n) n := rfl
theorem start_true (h : List Nat) (n : Nat) : M.start h n true = s3 (s2 (s1 (h ++ M.iv) n) n) := rfl
theorem small_s1 {v : List Nat} (hs : M.Small v) (n : Nat) : M.Small (s1 v n) := M.small_set hs _ (M.xor_lt (M.gt_lt hs _) (Nat.mod_lt _ (by decide)))
theorem small_s2 {v : List Nat} (hs : M.Small v) (n : Nat) : M.Small (s2 v n) := M.small_set hs _ (M.xor_lt (M.gt_lt hs _) (Nat.mod_lt _ (by decide)))
theorem small_s3 {v : List Nat} (hs : M.Small v) : M.Small (s3 v) := M.small_set hs _ (M.xor_lt (M.gt_lt hs _) (by decide))

theorem orders_len : ∀ k < 10, (M.orders.getD k []).length = 16 := by decide +kernel
theorem orders_small : ∀ k < 10, ∀ x ∈ M.orders.getD k [], x < 16 := by decide +kernel
theorem orders_gt (k : Nat) (hk : k < 10) (i : Nat) : M.gt (M.orders.getD k []) i < 16 := by
  unfold M.gt
  rw [List.getD_eq_getElem?_getD]
  rcases hq : (M.orders.getD k [])[i]? with _ | x
  · exact (by decide : 0 < 16)
  · exact orders_small k hk x (List.mem_of_getElem? hq)
theorem rounds_step (v m : List Nat) (k : Nat) (hk : k < 10) : M.rounds v m (M.orders.take (k + 1)) = M.round (M.rounds v m (M.orders.take k)) m (M.orders.getD k []) := by
  have hl : k < M.orders.length := hk
  rw [List.take_succ_eq_append_getElem hl, M.rounds, List.foldl_append]
  simp [M.rounds, hl]
def foldTo (h v : List Nat) (k : Nat) : List Nat := (List.range 8).map fun i => if i < k then M.gt h i ^^^ (M.gt v i ^^^ M.gt v (i + 8)) else M.gt h i
theorem len_foldTo (h v : List Nat) (k : Nat) : (foldTo h v k).length = 8 := by simp [foldTo]
theorem foldTo_at (h v : List Nat) (k i : Nat) (hi : i < 8) : M.gt (foldTo h v k) i = if i < k then M.gt h i ^^^ (M.gt v i ^^^ M.gt v (i + 8)) else M.gt h i := by
  simp [foldTo, M.gt, List.getD_eq_getElem?_getD, hi]
theorem foldTo_zero (h v : List Nat) (hl : h.length = 8) : foldTo h v 0 = h := by
  apply List.ext_getElem
  · rw [len_foldTo, hl]
  · intro i h1 h2
    simp [foldTo, M.gt, List.getD_eq_getElem?_getD, h2]
theorem foldTo_step (h v : List Nat) (k : Nat) (_ : k < 8) : (foldTo h v k).set k (M.gt h k ^^^ (M.gt v k ^^^ M.gt v (k + 8))) = foldTo h v (k + 1) := by
  apply List.ext_getElem
  · simp [len_foldTo]
  · intro i h1 h2
    rw [List.getElem_set]
    by_cases hik : k = i
    · subst hik
      simp [foldTo]
    · have e : (i < k + 1) ↔ (i < k) := by omega
      simp [foldTo, hik, e]
theorem foldTo_all (h v : List Nat) : foldTo h v 8 = M.fold h v := by
  unfold foldTo M.fold
  apply List.map_congr_left
  intro i hi
  rw [if_pos (List.mem_range.1 hi)]
theorem small_foldTo {h v : List Nat} (hh : M.Small h) (hv : M.Small v) (k : Nat) : M.Small (foldTo h v k) := by
  intro x hx
  obtain ⟨i, _, rfl⟩ := List.mem_map.1 hx
  split
  · exact M.xor_lt (M.gt_lt hh _) (M.xor_lt (M.gt_lt hv _) (M.gt_lt hv _))
  · exact M.gt_lt hh _
theorem one8 (v : List Nat) : (c8 v).all (·.oneCell') = true := by
  rw [Array.all_eq_true]
  intro i hi
  simp [c8]
  rfl
theorem one32a (v : List Nat) : (c32 v).all (·.oneCell') = true := by
  rw [Array.all_eq_true]
  intro i hi
  simp [c32]
  rfl

theorem storeCells_blk (w : World) (b : Nat) (old c' : Array Value) (t : TypeId) (hb : Blk w b old t) (hi : (Tryd.prog.info? t).map (·.size) = some c'.size) (ho : old.size = c'.size) (h1 : c'.all (·.oneCell') = true) :
    (storeCells ⟨b, 0, none⟩ c'.toList 0).run Tryd.prog w = .ok () (w.setRow b c') := by
  have := run_storeVar_row (P := Tryd.prog) w b t t old c' hb hi ho h1
  cases hq : Tryd.prog.info? t with
  | none => simp [hq] at hi
  | some i =>
    have hs : c'.size = i.size := by simp [hq] at hi; omega
    simpa [storeVar, sizeOf, typeInfo, hq, Value.cells, hs] using this

set_option maxHeartbeats 4000000 in
set_option maxRecDepth 100000 in
theorem compress_any (h m : List Nat) (hl : h.length = 8) (hs : M.Small h) (hml : m.length = 16) (hms : M.Small m) (n : Nat) (hn : n < 18446744073709551616) (last : Bool) (w : World) (ht : Tabs w) :
    Calls Tryd.prog 12 #[.agg (c32 h), .agg (c32 m), .int .u64 n, .bool last] w fun e w' =>
      e = .returned (.agg (c32 (M.press h m n last))) ∧ Old w w' := by
  have HL := Lib.hid hl
  have HS := Lib.hid hs
  have HML := Lib.hid hml
  have HMS := Lib.hid hms
  have HT := Lib.hid ht
  clear hl hs hml hms ht
  go_enter Tryd.func12, Tryd.ntmps12
  go_wp2
  obtain ⟨w4, bm, br, bv, e4, em, er, ev, hsz, ho4, hb0, hb1, hb2, hb3⟩ := four_blocks w (c32 h) (c32 m)
  rw [e4, em, er, ev]
  have HO := Lib.hid ho4
  have HT4 := Lib.hid (HT.out.old ho4)
  have H0 := Lib.hid hb0
  have H1 := Lib.hid hb1
  have H2 := Lib.hid hb2
  have H3 := Lib.hid hb3
  clear e4 ho4 hb0 hb1 hb2 hb3
  have hcp := copy_eight w4.drew bv w.heap.size [0, 0, 0, 0, 0, 0, 0, 0, 0, 0, 0, 0, 0, 0, 0, 0] h _ _ HL.out rfl H3.out H0.out
  have k5 : Keep (· = bv) w4 (w4.drew.setRow bv (c32 (h ++ List.drop 8 [0, 0, 0, 0, 0, 0, 0, 0, 0, 0, 0, 0, 0, 0, 0, 0]))) := (Keep.refl (· = bv) w4).drew.setRow (Or.inr rfl) _
  have hT5 := HT4.out.keep k5 (by have := HT.out.lt; have e : 0 = 0 := rfl; omega) (by have := HT.out.lt; have e : 1 = 1 := rfl; omega)
  obtain ⟨tI, fI, hbI⟩ := var_block num_initial hT5.1
  have HBI := Lib.hid hbI
  clear hbI hT5
  go_still_tail 2, (by kernel_rfl)
  change wpList _ _ _ _ _ w4.drew
  go_wp2_with (refine wpList_load_row rfl 29 (.global 0) rfl 0 rfl tI (c32 M.iv) fI (.array 8 28) HBI.out Tryd.underlying29 rfl size8 ?_)
  have h5 : Blk (w4.drew.setRow bv (c32 (h ++ [0, 0, 0, 0, 0, 0, 0, 0]))) bv (c32 (h ++ [0, 0, 0, 0, 0, 0, 0, 0])) 32 := Blk.setRow (show Blk w4.drew bv _ _ from H3.out) _
  have k5' : Keep (· = bv) w4 (w4.drew.setRow bv (c32 (h ++ [0, 0, 0, 0, 0, 0, 0, 0]))) := k5
  generalize w4.drew.setRow bv (c32 (h ++ [0, 0, 0, 0, 0, 0, 0, 0])) = w5 at *
  have K5 := Lib.hid k5'
  have H5 := Lib.hid h5
  clear k5 k5' h5 hcp HBI H3
  go_loopw [19] (fun i wr => ∃ k : Nat, k ≤ 8 ∧ i = .int .i64 k ∧ Blk wr bv (c32 (h ++ (M.iv.take k ++ List.replicate (8 - k) 0))) 32 ∧ Keep (· = bv) w5 wr) (fun i _ => 8 - (intOf i).toNat)
  case atStart => exact ⟨0, by decide, rfl, H5.out, Keep.refl _ _⟩
  case round =>
    obtain ⟨k, hk, rfl, hb, kk⟩ := hrel
    have HB := Lib.hid hb
    have KK := Lib.hid kk
    clear hb kk
    by_cases hlt : k < 8
    · have hf := HB.out.free (8 + k)
      have hce := HB.out.cellN (8 + k) (c32_at (by simp [HL.out, M.iv]; omega))
      have hix := index_num 29 8 M.iv k Tryd.underlying29 hlt rfl wr
      go_wp2
      go_roundw
      case rel =>
        refine ⟨k + 1, by omega, by go_num, ?_, KK.out.set1 _ _⟩
        have hset := HB.out.c32_set (8 + k) (M.gt M.iv k)
        rw [List.set_append_right _ _ (by rw [HL.out]; omega), HL.out, show 8 + k - 8 = k from by omega, iv_step k hlt] at hset
        exact hset
      case measure => simp [intOf]; omega
    · obtain rfl : k = 8 := by omega
      have hv0 : Blk wr bv (c32 (h ++ M.iv)) 32 := HB.out
      have HK6 := Lib.hid (K5.out.trans KK.out)
      have HV0 := Lib.hid (show (h ++ M.iv).length = 16 by rw [List.length_append, HL.out]; rfl)
      have HS0 : Hid (M.Small (h ++ M.iv)) := Lib.hid (fun x hx => by
        rcases List.mem_append.1 hx with hx | hx
        · exact HS.out x hx
        · exact M.small_iv x hx)
      have HST0 := Lib.hid (start_false h n)
      have HST1 := Lib.hid (start_true h n)
      generalize h ++ M.iv = v0 at *
      clear HB KK K5 H5
      have H6 := Lib.hid hv0
      clear hv0
      have c12 := H6.out.cellN 12 (c32_at (by rw [HV0.out]; decide))
      have f12 := H6.out.free 12
      have x12 := u32_xor_nat (M.gt v0 12) (n % 4294967296) (M.gt_lt HS0.out 12) (Nat.mod_lt _ (by decide))
      rw [show ((n % 4294967296 : Nat) : Int) = (n : Int) % 4294967296 from by omega] at x12
      go_upto_region 9 with (fail)
      obtain ⟨w7, e7⟩ : ∃ w7, (wr.setCell ⟨bv, 12, none⟩ (.int .u32 ((M.gt v0 12 ^^^ n % 4294967296 : Nat) : Int))) = w7 := ⟨_, rfl⟩
      have h7 : Blk w7 bv (c32 (s1 v0 n)) 32 := by rw [← e7]; exact H6.out.c32_set 12 _
      have k7 : Keep (· = bv) w4 w7 := by rw [← e7]; exact HK6.out.set1 12 _
      rw [e7]
      have H7 := Lib.hid h7
      have HK7 := Lib.hid k7
      have HV1 := Lib.hid (show (s1 v0 n).length = 16 by rw [s1, List.length_set, HV0.out])
      have HS1 := Lib.hid (small_s1 HS0.out n)
      clear e7 h7 k7 H6 HK6 HV0 HS0 c12 f12 x12
      obtain ⟨v1, ev1⟩ : ∃ v1, s1 v0 n = v1 := ⟨_, rfl⟩
      rw [ev1] at H7 HV1 HS1 HST0 HST1
      clear ev1
      have c13 := H7.out.cellN 13 (c32_at (by rw [HV1.out]; decide))
      have f13 := H7.out.free 13
      have x13 := u32_xor_nat (M.gt v1 13) (n / 4294967296 % 4294967296) (M.gt_lt HS1.out 13) (Nat.mod_lt _ (by decide))
      rw [show ((n / 4294967296 % 4294967296 : Nat) : Int) = (n : Int) / 4294967296 from by omega] at x13
      go_upto_region 10 with (fail)
      obtain ⟨w8, e8⟩ : ∃ w8, (w7.setCell ⟨bv, 13, none⟩ (.int .u32 ((M.gt v1 13 ^^^ n / 4294967296 % 4294967296 : Nat) : Int))) = w8 := ⟨_, rfl⟩
      have h8 : Blk w8 bv (c32 (s2 v1 n)) 32 := by rw [← e8]; exact H7.out.c32_set 13 _
      have k8 : Keep (· = bv) w4 w8 := by rw [← e8]; exact HK7.out.set1 13 _
      rw [e8]
      have H8 := Lib.hid h8
      have HK8 := Lib.hid k8
      have HV2 := Lib.hid (show (s2 v1 n).length = 16 by rw [s2, List.length_set, HV1.out])
      have HS2 := Lib.hid (small_s2 HS1.out n)
      clear e8 h8 k8 H7 HK7 HV1 HS1 c13 f13 x13
      obtain ⟨v2, ev2⟩ : ∃ v2, s2 v1 n = v2 := ⟨_, rfl⟩
      rw [ev2] at H8 HV2 HS2 HST0 HST1
      clear ev2
      have c14 := H8.out.cellN 14 (c32_at (by rw [HV2.out]; decide))
      have f14 := H8.out.free 14
      have x14 : bits BinOp.xor IntKind.u32 (if IntKind.u32.signed = true then -1 else IntKind.u32.max) (M.gt v2 14 : Int) = ((M.gt v2 14 ^^^ 4294967295 : Nat) : Int) := by
        rw [Nat.xor_comm]
        exact u32_xor_nat 4294967295 (M.gt v2 14) (by decide) (M.gt_lt HS2.out 14)
      cases last
      all_goals
        go_upto_region 12 with (fail)
        first
        | (obtain ⟨w9, e9⟩ : ∃ w9, (w8.setCell ⟨bv, 14, none⟩ (.int .u32 ((M.gt v2 14 ^^^ 4294967295 : Nat) : Int))) = w9 := ⟨_, rfl⟩
           rw [e9]
           have h9 : Blk w9 bv (c32 (s3 v2)) 32 := by rw [← e9]; exact H8.out.c32_set 14 _
           have k9 : Keep (· = bv) w4 w9 := by rw [← e9]; exact HK8.out.set1 14 _
           have l9 : (s3 v2).length = 16 := by rw [s3, List.length_set, HV2.out]
           have s9 : M.Small (s3 v2) := small_s3 HS2.out
           have p9 : M.press h m n true = M.fold h (M.rounds (s3 v2) m M.orders) := by rw [M.press, HST1.out]
           generalize (s3 v2) = v3 at *)
        | (obtain ⟨w9, e9⟩ : ∃ w9, w8 = w9 := ⟨_, rfl⟩
           rw [e9]
           have h9 : Blk w9 bv (c32 v2) 32 := by rw [← e9]; exact H8.out
           have k9 : Keep (· = bv) w4 w9 := by rw [← e9]; exact HK8.out
           have l9 : v2.length = 16 := HV2.out
           have s9 : M.Small v2 := HS2.out
           have p9 : M.press h m n false = M.fold h (M.rounds v2 m M.orders) := by rw [M.press, HST0.out]
           generalize v2 = v3 at *)
        clear e9 c14 f14 x14 H8 HK8 HV2 HS2 HST0 HST1
        have H9 := Lib.hid h9
        have HK9 := Lib.hid k9
        have HV3 := Lib.hid l9
        have HS3 := Lib.hid s9
        have HP := Lib.hid p9
        clear h9 k9 l9 s9 p9
        obtain ⟨tO, fO, hbO⟩ := var_block num_orders (HT4.out.keep HK9.out (by have := HT.out.lt; have e : 0 = 0 := rfl; omega) (by have := HT.out.lt; have e : 1 = 1 := rfl; omega)).2
        have HBO := Lib.hid hbO
        clear hbO
        go_wp2_with (refine wpList_load_row rfl 41 (.global 1) rfl 1 rfl tO (c8 M.orders.flatten) fO (.array 10 40) HBO.out Tryd.underlying41 rfl size160 ?_)
        go_loopw [47] (fun i wr => ∃ k : Nat, k ≤ 10 ∧ i = .int .i64 k ∧ Blk wr bv (c32 (M.rounds v3 m (M.orders.take k))) 32 ∧ Keep (· = bv) w9 wr) (fun i _ => 10 - (intOf i).toNat)
        case atStart => exact ⟨0, by decide, rfl, H9.out, Keep.refl _ _⟩
        case round =>
          obtain ⟨k, hk, rfl, hb, kk⟩ := hrel
          have HB := Lib.hid hb
          have KK := Lib.hid kk
          clear hb kk
          by_cases hlt : k < 10
          · have hir := index_row k hlt wr
            have HRS := Lib.hid (rounds_step v3 m k hlt)
            have HVR := Lib.hid ((M.len_rounds (m := m) (M.orders.take k) v3).trans HV3.out)
            have HSR := Lib.hid (M.small_rounds (m := m) (M.orders.take k) HS3.out)
            have HOL := Lib.hid (orders_len k hlt)
            have HOG := Lib.hid (orders_gt k hlt)
            generalize M.rounds v3 m (M.orders.take k) = vk at *
            generalize M.orders.getD k [] = s at *
            have k10 : Keep (· = bv) w4 (wr.alloc (.cells (c8 s) 40)) := (HK9.out.trans KK.out).alloc _
            have G := Lib.hid (round_any bv bm wr.heap.size vk m s HVR.out HSR.out HML.out HMS.out HOL.out HOG.out (by omega) (by have := HB.out.lt; omega) (wr.alloc (.cells (c8 s) 40)) (HB.out.alloc _) (H1.out.keep k10 (by omega)) (Blk.new _ _ _))
            have hcs : (c8 s).size = 16 := by rw [c8_size, HOL.out]
            have hsc := run_storeCells_new (P := Tryd.prog) wr 40 #[.int .u8 0, .int .u8 0, .int .u8 0, .int .u8 0, .int .u8 0, .int .u8 0, .int .u8 0, .int .u8 0, .int .u8 0, .int .u8 0, .int .u8 0, .int .u8 0, .int .u8 0, .int .u8 0, .int .u8 0, .int .u8 0] (c8 s) (by rw [hcs]; exact size16b) (by rw [hcs]; rfl) (one8 s)
            clear k10
            go_wp2_with ((with_reducible refine G.out.mono ?_); rintro e w10 ⟨rfl, h10, k11⟩)
            go_roundw
            case rel => exact ⟨k + 1, by omega, by go_num, by rw [HRS.out]; exact h10, (KK.out.alloc _).trans k11⟩
            case measure => simp [intOf]; omega
          · obtain rfl : k = 10 := by omega
            have hb : Blk wr bv (c32 (M.rounds v3 m M.orders)) 32 := HB.out
            have HVR := Lib.hid ((M.len_rounds (m := m) M.orders v3).trans HV3.out)
            have HSR := Lib.hid (M.small_rounds (m := m) M.orders HS3.out)
            have hk11 : Keep (· = bv) w4 wr := HK9.out.trans KK.out
            have hh : Blk wr w.heap.size (c32 (foldTo h (M.rounds v3 m M.orders) 0)) 29 := by
              rw [foldTo_zero _ _ HL.out]; exact H0.out.keep hk11 (by omega)
            have hr2 : Blk wr br (c32 [0, 0, 0, 0, 0, 0, 0, 0]) 29 := H2.out.keep hk11 (by omega)
            have ho11 : Old w wr := Below.trans HO.out (hk11.below HO.out.size (fun q hq => by omega))
            clear hk HBO H1
            generalize M.rounds v3 m M.orders = vf at *
            have HHB := Lib.hid hb
            have HH := Lib.hid hh
            have HR2 := Lib.hid hr2
            have HO11 := Lib.hid ho11
            clear hb hh hr2 ho11 hk11 HB KK HK9 H9 HS3 HV3
            go_wp2
            go_loopw [52] (fun i wx => ∃ k : Nat, k ≤ 8 ∧ i = .int .i64 k ∧ Blk wx w.heap.size (c32 (foldTo h vf k)) 29 ∧ Keep (· = w.heap.size) wr wx) (fun i _ => 8 - (intOf i).toNat)
            case atStart => exact ⟨0, by decide, rfl, HH.out, Keep.refl _ _⟩
            case round =>
              obtain ⟨k, hk, rfl, hb, kk⟩ := hrel
              have HB := Lib.hid hb
              have KK := Lib.hid kk
              clear hb kk
              by_cases hlt : k < 8
              · have cv := HHB.out.keep KK.out (by omega)
                have c1 := cv.cellN k (c32_at (by rw [HVR.out]; omega))
                have c2 := cv.cellN (k + 8) (c32_at (by rw [HVR.out]; omega))
                have c3 := HB.out.cellN k (c32_at (by rw [len_foldTo]; exact hlt))
                have e3 : M.gt (foldTo h vf k) k = M.gt h k := by rw [foldTo_at _ _ _ _ hlt, if_neg (Nat.lt_irrefl _)]
                rw [e3] at c3
                have f3 := HB.out.free k
                have x1 := u32_xor_nat (M.gt vf k) (M.gt vf (k + 8)) (M.gt_lt HSR.out k) (M.gt_lt HSR.out (k + 8))
                have x2 := u32_xor_nat (M.gt h k) (M.gt vf k ^^^ M.gt vf (k + 8)) (M.gt_lt HS.out k) (M.xor_lt (M.gt_lt HSR.out k) (M.gt_lt HSR.out (k + 8)))
                have i1 : (k : Int) < 8 := by omega
                have i2 : (0 : Int) ≤ (k : Int) := by omega
                have i3 : (k : Int) < 16 := by omega
                have i4 : (k : Int) + 8 < 16 := by omega
                have i5 : (0 : Int) ≤ (k : Int) + 8 := by omega
                have i6 : IntKind.i64.wrap ((k : Int) + 8) = (k : Int) + 8 := IntWalk.i64_in _ (by omega)
                have i7 : ((k : Int) + 8).toNat = k + 8 := by omega
                clear cv e3
                go_wp2
                go_still_tail 13, (by kernel_rfl)
                change wpList _ _ _ _ _ wr.drew
                go_wp2
                refine ⟨?_, ?measure⟩
                refine ⟨_, _, _, _, _, _, _, _, _, _, _, _, _, _, _, _, _, _, ?rel, rfl⟩
                case rel =>
                  refine ⟨k + 1, by omega, by go_num, ?_, (KK.out.setCell (Or.inr rfl) _).drew⟩
                  have := HB.out.c32_set k (M.gt h k ^^^ (M.gt vf k ^^^ M.gt vf (k + 8)))
                  rw [foldTo_step _ _ _ hlt] at this
                  exact this
                case measure => simp [intOf]; omega
              · obtain rfl : k = 8 := by omega
                have hf : Blk wr w.heap.size (c32 (M.fold h vf)) 29 := by rw [← foldTo_all]; exact HB.out
                have HF := Lib.hid hf
                have HR := Lib.hid (HR2.out.keep KK.out (by omega))
                have HOF := Lib.hid (Below.trans HO11.out (KK.out.below HO11.out.size (fun q hq => by omega)))
                have HSZ := Lib.hid (show (c32 (M.fold h vf)).size = 8 by rw [c32_size, M.len_fold])
                have hs8 := HSZ.out
                have hsc := storeCells_blk wr br (c32 [0, 0, 0, 0, 0, 0, 0, 0]) (c32 (M.fold h vf)) 29 HR.out (by rw [HSZ.out]; exact size8) (by rw [HSZ.out]; rfl) (one32a _)
                go_wp2_with (refine wpList_load_row rfl 29 (.tmp 4) rfl w.heap.size rfl 29 (c32 (M.fold h vf)) (0, 0) (.array 8 28) HF.out Tryd.underlying29 rfl (by rw [HSZ.out]; exact size8) ?_)
                have HN := Lib.hid (Blk.setRow HR.out (c32 (M.fold h vf)))
                refine bodyPost_ret (v := .agg (c32 (M.fold h vf))) (results_cell_row (P := Tryd.prog) rfl _ _ br 29 _ (0, 0) (.array 8 28) rfl HN.out Tryd.underlying29 rfl (by rw [HSZ.out]; exact size8)) rfl ⟨by rw [HP.out], ?_⟩
                exact below_setRow HOF.out (by omega) _
end Go.Proofs.YtgodccgbhpannaaDoor
