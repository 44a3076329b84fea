/- Merged of: BlakeD BlakeE BlakeF BlakeG BlakeH. -/
import Derived.Test.YtabcobadglgfkaaGreatDoorMB1
import Derived.Test.YtabcobadglgfkaaGreatDoorMC1
import Derived.Deep.WholeRow
import Derived.Laws.CopyOwn
import Derived.Deep.RegionLaw
import Derived.Deep.CutBlock
import Derived.Lib.BufferWrite
import Derived.Laws.MakeOwn
import Derived.Deep.AppendLies
/- The program's pressing of a block. -/
namespace Go.Proofs.YtabcobadglgfkaaGreatDoor
open Go.RowKit

/-- The two tables that the program reads. -/
def Tabs (w : World) : Prop := w.var? Tryz.prog "trestle/blake.initial" = some (c32 M.iv) ∧ w.var? Tryz.prog "trestle/blake.orders" = some (c8 M.orders.flatten)
theorem num_initial : Tryz.prog.globalNamed "trestle/blake.initial" = some 0 := by kernel_rfl
theorem num_orders : Tryz.prog.globalNamed "trestle/blake.orders" = some 1 := by kernel_rfl
theorem Tabs.keep {S : Nat → Prop} {w w' : World} (h : Tabs w) (k : Keep S w w') (h0 : ¬ S 0) (h1 : ¬ S 1) : Tabs w' :=
  ⟨var_old num_initial h.1 (fun hl => k.block _ hl h0), var_old num_orders h.2 (fun hl => k.block _ hl h1)⟩
theorem Tabs.old {w w' : World} (h : Tabs w) (k : Old w w') : Tabs w' := h.keep (Keep.of_old (S := fun _ => False) k) (fun h => h) (fun h => h)
theorem var_block {w : World} {name : String} {g : Nat} {x : Array Value} (hg : Tryz.prog.globalNamed name = some g) (h : w.var? Tryz.prog name = some x) : ∃ t fr, w.heap[g]? = some (.cells x t fr) := by
  unfold World.var? at h
  rw [hg] at h
  simp only [Option.bind_some] at h
  split at h
  · rename_i cs t fr hc
    obtain rfl := Option.some.inj h
    exact ⟨t, fr, hc⟩
  · cases h
theorem Tabs.lt {w : World} (h : Tabs w) : 2 ≤ w.heap.size := by
  obtain ⟨t, fr, hb⟩ := var_block num_orders h.2
  have := (Array.getElem?_eq_some_iff.1 hb).1
  have e : 1 = 1 := rfl
  omega
theorem size8 : (Tryz.prog.info? 85).map (·.size) = some 8 := by kernel_rfl
theorem size16 : (Tryz.prog.info? 88).map (·.size) = some 16 := by kernel_rfl
theorem size16b : (Tryz.prog.info? 128).map (·.size) = some 16 := by kernel_rfl
theorem size160 : (Tryz.prog.info? 129).map (·.size) = some 160 := by kernel_rfl
theorem size1 : (Tryz.prog.info? 84).map (·.size) = some 1 := by kernel_rfl
theorem c32_size (v : List Nat) : (c32 v).size = v.length := by simp [c32]
theorem c8_size (v : List Nat) : (c8 v).size = v.length := by simp [c8]
theorem one32 (v : List Nat) : ∀ x ∈ (c32 v).toList, x.oneCell' = true := by
  intro x hx
  simp only [c32, List.mem_map] at hx
  obtain ⟨n, _, rfl⟩ := hx
  rfl
theorem four_blocks (w : World) (x y : Array Value) : ∃ w4 bm br bv, ((((w.alloc (.cells x 85)).alloc (.cells y 88)).alloc (.cells #[.int .u32 0, .int .u32 0, .int .u32 0, .int .u32 0, .int .u32 0, .int .u32 0, .int .u32 0, .int .u32 0] 85)).alloc (.cells #[.int .u32 0, .int .u32 0, .int .u32 0, .int .u32 0, .int .u32 0, .int .u32 0, .int .u32 0, .int .u32 0, .int .u32 0, .int .u32 0, .int .u32 0, .int .u32 0, .int .u32 0, .int .u32 0, .int .u32 0, .int .u32 0] 88)) = w4 ∧
    w.heap.size + 1 = bm ∧ bm + 1 = br ∧ br + 1 = bv ∧ w4.heap.size = bv + 1 ∧ Old w w4 ∧ Blk w4 w.heap.size x 85 ∧ Blk w4 bm y 88 ∧ Blk w4 br (c32 [0, 0, 0, 0, 0, 0, 0, 0]) 85 ∧ Blk w4 bv (c32 [0, 0, 0, 0, 0, 0, 0, 0, 0, 0, 0, 0, 0, 0, 0, 0]) 88 := by
  refine ⟨_, _, _, _, rfl, rfl, rfl, rfl, by simp, ?_, ?_, ?_, ?_, ?_⟩
  · exact Below.alloc (Below.alloc (Below.alloc (Old.alloc w _) (by simp) _) (by simp; omega) _) (by simp; omega) _
  · exact (((Blk.new w x _).alloc _).alloc _).alloc _
  · have := ((Blk.new (w.alloc (.cells x 85)) y 88).alloc (.cells #[.int .u32 0, .int .u32 0, .int .u32 0, .int .u32 0, .int .u32 0, .int .u32 0, .int .u32 0, .int .u32 0] 85)).alloc (.cells #[.int .u32 0, .int .u32 0, .int .u32 0, .int .u32 0, .int .u32 0, .int .u32 0, .int .u32 0, .int .u32 0, .int .u32 0, .int .u32 0, .int .u32 0, .int .u32 0, .int .u32 0, .int .u32 0, .int .u32 0, .int .u32 0] 88)
    simp at this
    exact this
  · have := (Blk.new ((w.alloc (.cells x 85)).alloc (.cells y 88)) #[.int .u32 0, .int .u32 0, .int .u32 0, .int .u32 0, .int .u32 0, .int .u32 0, .int .u32 0, .int .u32 0] 85).alloc (.cells #[.int .u32 0, .int .u32 0, .int .u32 0, .int .u32 0, .int .u32 0, .int .u32 0, .int .u32 0, .int .u32 0, .int .u32 0, .int .u32 0, .int .u32 0, .int .u32 0, .int .u32 0, .int .u32 0, .int .u32 0, .int .u32 0] 88)
    simp at this
    exact this
  · have := Blk.new (((w.alloc (.cells x 85)).alloc (.cells y 88)).alloc (.cells #[.int .u32 0, .int .u32 0, .int .u32 0, .int .u32 0, .int .u32 0, .int .u32 0, .int .u32 0, .int .u32 0] 85)) #[.int .u32 0, .int .u32 0, .int .u32 0, .int .u32 0, .int .u32 0, .int .u32 0, .int .u32 0, .int .u32 0, .int .u32 0, .int .u32 0, .int .u32 0, .int .u32 0, .int .u32 0, .int .u32 0, .int .u32 0, .int .u32 0] 88
    simp at this
    exact this
theorem splice_head {α : Type} (L c : List α) : Go.splice L 0 c = c ++ L.drop c.length := by simp [Go.splice]

theorem add_at (b j : Nat) : (⟨b, 0, none⟩ : Addr).add j = ⟨b, j, none⟩ := by unfold Addr.add; split <;> simp_all
set_option maxRecDepth 100000 in
theorem copy_eight (w : World) (bv bh : Nat) (v h : List Nat) (T T' : TypeId) (hl : h.length = 8) (hv : v.length = 16) (Hv : Blk w bv (c32 v) T) (Hh : Blk w bh (c32 h) T') :
    (Builtin.copy_ #[127, 127] 3 #[.slice (some ⟨bv, 0, none⟩) 16 16, .slice (some ⟨bh, 0, none⟩) 8 8]).run Tryz.prog w = .ok (goInt 8) (w.setRow bv (c32 (h ++ v.drop 8))) := by
  have hlen : (c32 h).toList.length = 8 := by rw [Array.length_toList, c32_size, hl]
  have := run_copy_row (P := Tryz.prog) w 127 127 3 84 bv 0 16 16 ⟨bh, 0, none⟩ 8 8 (c32 v) T (c32 h).toList Tryz.underlying127 size1 Hv hlen
    (fun j x hx => by rw [add_at, Hh.cell j]; simpa using hx) (by rw [hlen, c32_size, hv]; decide) (one32 h)
  rw [this, hlen]
  congr 2
  simp [c32]
theorem Blk.setRow {w : World} {b : Nat} {vs : Array Value} {T : TypeId} (h : Blk w b vs T) (cs : Array Value) : Blk (w.setRow b cs) b cs T := setRow_heap w b vs cs T _ h
theorem Keep.setRow {S : Nat → Prop} {a w : World} (h : Keep S a w) {b : Nat} (hb : a.heap.size ≤ b ∨ S b) (cs : Array Value) : Keep S a (w.setRow b cs) :=
  ⟨h.os, h.tape, h.output, by rw [setRow_size]; exact h.size, fun k hk hs => (setRow_other w b k cs (by rintro rfl; rcases hb with hb | hb; omega; exact hs hb)).trans (h.block k hk hs)⟩

theorem index_num (t : TypeId) (n : Nat) (v : List Nat) (k : Nat) (hu : Tryz.prog.underlying t = some (.array n 84)) (hk : k < n) (hv : v.length = n) (w : World) :
    (Instr.index t (.agg (c32 v)) (.int .i64 k)).run Tryz.prog w = .ok (.int .u32 (M.gt v k : Nat)) w := by
  have hc := c32_at (v := v) (i := k) (by omega)
  simp [Instr.index, asIntOf, run_underlying hu, hk, part, hc, Tryz.isAgg84, Tryz.sizeOf84]
theorem rows_list : ∀ k < 10, (M.orders.flatten.drop (k * 16)).take 16 = M.orders.getD k [] := by decide +kernel
theorem rows_at (k : Nat) (hk : k < 10) : (c8 M.orders.flatten).extract (k * 16) (k * 16 + 16) = c8 (M.orders.getD k []) := by
  rw [← rows_list k hk, c8, List.extract_toArray, List.extract_eq_take_drop, ← List.map_drop, ← List.map_take, Nat.add_sub_cancel_left]
  rfl
theorem index_row (k : Nat) (hk : k < 10) (w : World) :
    (Instr.index 129 (.agg (c8 M.orders.flatten)) (.int .i64 k)).run Tryz.prog w = .ok (.agg (c8 (M.orders.getD k []))) w := by
  have hc := rows_at k hk
  rw [← hc]
  simp [Instr.index, asIntOf, run_underlying Tryz.underlying129, hk, part, Tryz.isAgg128, Tryz.sizeOf128]
theorem iv_step : ∀ k < 8, (M.iv.take k ++ List.replicate (8 - k) 0).set k (M.gt M.iv k) = M.iv.take (k + 1) ++ List.replicate (8 - (k + 1)) 0 := by decide +kernel

def s1 (v : List Nat) (n : Nat) : List Nat := v.set 12 (M.gt v 12 ^^^ n % 4294967296)
def s2 (v : List Nat) (n : Nat) : List Nat := v.set 13 (M.gt v 13 ^^^ n / 4294967296 % 4294967296)
def s3 (v : List Nat) : List Nat := v.set 14 (M.gt v 14 ^^^ 4294967295)
theorem start_false (h : List Nat) (n : Nat) : M.start h n false = s2 (s1 (h ++ M.iv) n) n := rfl
theorem start_true (h : List Nat) (n : Nat) : M.start h n true = s3 (s2 (s1 (h ++ M.iv) n) n) := rfl
theorem small_s1 {v : List Nat} (hs : M.Small v) (n : Nat) : M.Small (s1 v n) := M.small_set hs _ (M.xor_lt (M.gt_lt hs _) (Nat.mod_lt _ (by decide)))
theorem small_s2 {v : List Nat} (hs : M.Small v) (n : Nat) : M.Small (s2 v n) := M.small_set hs _ (M.xor_lt (M.gt_lt hs _) (Nat.mod_lt _ (by decide)))
theorem small_s3 {v : List Nat} (hs : M.Small v) : M.Small (s3 v) := M.small_set hs _ (M.xor_lt (M.gt_lt hs _) (by decide))

theorem orders_len : ∀ k < 10, (M.orders.getD k []).length = 16 := by decide +kernel
theorem orders_small : ∀ k < 10, ∀ x ∈ M.orders.getD k [], x < 16 := by decide +kernel
theorem orders_gt (k : Nat) (hk : k < 10) (i : Nat) : M.gt (M.orders.getD k []) i < 16 := by
  unfold M.gt
  rw [List.getD_eq_getElem?_getD]
  rcases hq : (M.orders.getD k [])[i]? with _ | x
  · exact (by decide : 0 < 16)
  · exact orders_small k hk x (List.mem_of_getElem? hq)
theorem rounds_step (v m : List Nat) (k : Nat) (hk : k < 10) : M.rounds v m (M.orders.take (k + 1)) = M.round (M.rounds v m (M.orders.take k)) m (M.orders.getD k []) := by
  have hl : k < M.orders.length := hk
  rw [List.take_succ_eq_append_getElem hl, M.rounds, List.foldl_append]
  simp [M.rounds, hl]
def foldTo (h v : List Nat) (k : Nat) : List Nat := (List.range 8).map fun i => if i < k then M.gt h i ^^^ (M.gt v i ^^^ M.gt v (i + 8)) else M.gt h i
theorem len_foldTo (h v : List Nat) (k : Nat) : (foldTo h v k).length = 8 := by simp [foldTo]
theorem foldTo_at (h v : List Nat) (k i : Nat) (hi : i < 8) : M.gt (foldTo h v k) i = if i < k then M.gt h i ^^^ (M.gt v i ^^^ M.gt v (i + 8)) else M.gt h i := by
  simp [foldTo, M.gt, List.getD_eq_getElem?_getD, hi]
theorem foldTo_zero (h v : List Nat) (hl : h.length = 8) : foldTo h v 0 = h := by
  apply List.ext_getElem
  · rw [len_foldTo, hl]
  · intro i h1 h2
    simp [foldTo, M.gt, List.getD_eq_getElem?_getD, h2]
theorem foldTo_step (h v : List Nat) (k : Nat) (_ : k < 8) : (foldTo h v k).set k (M.gt h k ^^^ (M.gt v k ^^^ M.gt v (k + 8))) = foldTo h v (k + 1) := by
  apply List.ext_getElem
  · simp [len_foldTo]
  · intro i h1 h2
    rw [List.getElem_set]
    by_cases hik : k = i
    · subst hik
      simp [foldTo]
    · have e : (i < k + 1) ↔ (i < k) := by omega
      simp [foldTo, hik, e]
theorem foldTo_all (h v : List Nat) : foldTo h v 8 = M.fold h v := by
  unfold foldTo M.fold
  apply List.map_congr_left
  intro i hi
  rw [if_pos (List.mem_range.1 hi)]
theorem small_foldTo {h v : List Nat} (hh : M.Small h) (hv : M.Small v) (k : Nat) : M.Small (foldTo h v k) := by
  intro x hx
  obtain ⟨i, _, rfl⟩ := List.mem_map.1 hx
  split
  · exact M.xor_lt (M.gt_lt hh _) (M.xor_lt (M.gt_lt hv _) (M.gt_lt hv _))
  · exact M.gt_lt hh _
theorem one8 (v : List Nat) : (c8 v).all (·.oneCell') = true := by
  rw [Array.all_eq_true]
  intro i hi
  simp [c8]
  rfl
theorem one32a (v : List Nat) : (c32 v).all (·.oneCell') = true := by
  rw [Array.all_eq_true]
  intro i hi
  simp [c32]
  rfl

theorem storeCells_blk (w : World) (b : Nat) (old c' : Array Value) (t : TypeId) (hb : Blk w b old t) (hi : (Tryz.prog.info? t).map (·.size) = some c'.size) (ho : old.size = c'.size) (h1 : c'.all (·.oneCell') = true) :
    (storeCells ⟨b, 0, none⟩ c'.toList 0).run Tryz.prog w = .ok () (w.setRow b c') := by
  have := run_storeVar_row (P := Tryz.prog) w b t t old c' hb hi ho h1
  cases hq : Tryz.prog.info? t with
  | none => simp [hq] at hi
  | some i =>
    have hs : c'.size = i.size := by simp [hq] at hi; omega
    simpa [storeVar, sizeOf, typeInfo, hq, Value.cells, hs] using this

set_option maxHeartbeats 4000000 in
set_option maxRecDepth 100000 in
theorem compress_any (h m : List Nat) (hl : h.length = 8) (hs : M.Small h) (hml : m.length = 16) (hms : M.Small m) (n : Nat) (hn : n < 18446744073709551616) (last : Bool) (w : World) (ht : Tabs w) :
    Calls Tryz.prog 64 #[.agg (c32 h), .agg (c32 m), .int .u64 n, .bool last] w fun e w' =>
      e = .returned (.agg (c32 (M.press h m n last))) ∧ Old w w' := by
  have HL := Lib.hid hl
  have HS := Lib.hid hs
  have HML := Lib.hid hml
  have HMS := Lib.hid hms
  have HT := Lib.hid ht
  clear hl hs hml hms ht
  go_enter Tryz.func64, Tryz.ntmps64
  go_wp2
  obtain ⟨w4, bm, br, bv, e4, em, er, ev, hsz, ho4, hb0, hb1, hb2, hb3⟩ := four_blocks w (c32 h) (c32 m)
  rw [e4, em, er, ev]
  have HO := Lib.hid ho4
  have HT4 := Lib.hid (HT.out.old ho4)
  have H0 := Lib.hid hb0
  have H1 := Lib.hid hb1
  have H2 := Lib.hid hb2
  have H3 := Lib.hid hb3
  clear e4 ho4 hb0 hb1 hb2 hb3
  have hcp := copy_eight w4.drew bv w.heap.size [0, 0, 0, 0, 0, 0, 0, 0, 0, 0, 0, 0, 0, 0, 0, 0] h _ _ HL.out rfl H3.out H0.out
  have k5 : Keep (· = bv) w4 (w4.drew.setRow bv (c32 (h ++ List.drop 8 [0, 0, 0, 0, 0, 0, 0, 0, 0, 0, 0, 0, 0, 0, 0, 0]))) := (Keep.refl (· = bv) w4).drew.setRow (Or.inr rfl) _
  have hT5 := HT4.out.keep k5 (by have := HT.out.lt; have e : 0 = 0 := rfl; omega) (by have := HT.out.lt; have e : 1 = 1 := rfl; omega)
  obtain ⟨tI, fI, hbI⟩ := var_block num_initial hT5.1
  have HBI := Lib.hid hbI
  clear hbI hT5
  go_still_tail 2, (by kernel_rfl)
  change wpList _ _ _ _ _ w4.drew
  go_wp2_with (refine wpList_load_row rfl 85 (.global 0) rfl 0 rfl tI (c32 M.iv) fI (.array 8 84) HBI.out Tryz.underlying85 rfl size8 ?_)
  have h5 : Blk (w4.drew.setRow bv (c32 (h ++ [0, 0, 0, 0, 0, 0, 0, 0]))) bv (c32 (h ++ [0, 0, 0, 0, 0, 0, 0, 0])) 88 := Blk.setRow (show Blk w4.drew bv _ _ from H3.out) _
  have k5' : Keep (· = bv) w4 (w4.drew.setRow bv (c32 (h ++ [0, 0, 0, 0, 0, 0, 0, 0]))) := k5
  generalize w4.drew.setRow bv (c32 (h ++ [0, 0, 0, 0, 0, 0, 0, 0])) = w5 at *
  have K5 := Lib.hid k5'
  have H5 := Lib.hid h5
  clear k5 k5' h5 hcp HBI H3
  go_loopw [19] (fun i wr => ∃ k : Nat, k ≤ 8 ∧ i = .int .i64 k ∧ Blk wr bv (c32 (h ++ (M.iv.take k ++ List.replicate (8 - k) 0))) 88 ∧ Keep (· = bv) w5 wr) (fun i _ => 8 - (intOf i).toNat)
  case atStart => exact ⟨0, by decide, rfl, H5.out, Keep.refl _ _⟩
  case round =>
    obtain ⟨k, hk, rfl, hb, kk⟩ := hrel
    have HB := Lib.hid hb
    have KK := Lib.hid kk
    clear hb kk
    by_cases hlt : k < 8
    · have hf := HB.out.free (8 + k)
      have hce := HB.out.cellN (8 + k) (c32_at (by simp [HL.out, M.iv]; omega))
      have hix := index_num 85 8 M.iv k Tryz.underlying85 hlt rfl wr
      go_wp2
      go_roundw
      case rel =>
        refine ⟨k + 1, by omega, by go_num, ?_, KK.out.set1 _ _⟩
        have hset := HB.out.c32_set (8 + k) (M.gt M.iv k)
        rw [List.set_append_right _ _ (by rw [HL.out]; omega), HL.out, show 8 + k - 8 = k from by omega, iv_step k hlt] at hset
        exact hset
      case measure => simp [intOf]; omega
    · obtain rfl : k = 8 := by omega
      have hv0 : Blk wr bv (c32 (h ++ M.iv)) 88 := HB.out
      have HK6 := Lib.hid (K5.out.trans KK.out)
      have HV0 := Lib.hid (show (h ++ M.iv).length = 16 by rw [List.length_append, HL.out]; rfl)
      have HS0 : Hid (M.Small (h ++ M.iv)) := Lib.hid (fun x hx => by
        rcases List.mem_append.1 hx with hx | hx
        · exact HS.out x hx
        · exact M.small_iv x hx)
      have HST0 := Lib.hid (start_false h n)
      have HST1 := Lib.hid (start_true h n)
      generalize h ++ M.iv = v0 at *
      clear HB KK K5 H5
      have H6 := Lib.hid hv0
      clear hv0
      have c12 := H6.out.cellN 12 (c32_at (by rw [HV0.out]; decide))
      have f12 := H6.out.free 12
      have x12 := u32_xor_nat (M.gt v0 12) (n % 4294967296) (M.gt_lt HS0.out 12) (Nat.mod_lt _ (by decide))
      rw [show ((n % 4294967296 : Nat) : Int) = (n : Int) % 4294967296 from by omega] at x12
      go_upto_region 9 with (fail)
      obtain ⟨w7, e7⟩ : ∃ w7, (wr.setCell ⟨bv, 12, none⟩ (.int .u32 ((M.gt v0 12 ^^^ n % 4294967296 : Nat) : Int))) = w7 := ⟨_, rfl⟩
      have h7 : Blk w7 bv (c32 (s1 v0 n)) 88 := by rw [← e7]; exact H6.out.c32_set 12 _
      have k7 : Keep (· = bv) w4 w7 := by rw [← e7]; exact HK6.out.set1 12 _
      rw [e7]
      have H7 := Lib.hid h7
      have HK7 := Lib.hid k7
      have HV1 := Lib.hid (show (s1 v0 n).length = 16 by rw [s1, List.length_set, HV0.out])
      have HS1 := Lib.hid (small_s1 HS0.out n)
      clear e7 h7 k7 H6 HK6 HV0 HS0 c12 f12 x12
      obtain ⟨v1, ev1⟩ : ∃ v1, s1 v0 n = v1 := ⟨_, rfl⟩
      rw [ev1] at H7 HV1 HS1 HST0 HST1
      clear ev1
      have c13 := H7.out.cellN 13 (c32_at (by rw [HV1.out]; decide))
      have f13 := H7.out.free 13
      have x13 := u32_xor_nat (M.gt v1 13) (n / 4294967296 % 4294967296) (M.gt_lt HS1.out 13) (Nat.mod_lt _ (by decide))
      rw [show ((n / 4294967296 % 4294967296 : Nat) : Int) = (n : Int) / 4294967296 from by omega] at x13
      go_upto_region 10 with (fail)
      obtain ⟨w8, e8⟩ : ∃ w8, (w7.setCell ⟨bv, 13, none⟩ (.int .u32 ((M.gt v1 13 ^^^ n / 4294967296 % 4294967296 : Nat) : Int))) = w8 := ⟨_, rfl⟩
      have h8 : Blk w8 bv (c32 (s2 v1 n)) 88 := by rw [← e8]; exact H7.out.c32_set 13 _
      have k8 : Keep (· = bv) w4 w8 := by rw [← e8]; exact HK7.out.set1 13 _
      rw [e8]
      have H8 := Lib.hid h8
      have HK8 := Lib.hid k8
      have HV2 := Lib.hid (show (s2 v1 n).length = 16 by rw [s2, List.length_set, HV1.out])
      have HS2 := Lib.hid (small_s2 HS1.out n)
      clear e8 h8 k8 H7 HK7 HV1 HS1 c13 f13 x13
      obtain ⟨v2, ev2⟩ : ∃ v2, s2 v1 n = v2 := ⟨_, rfl⟩
      rw [ev2] at H8 HV2 HS2 HST0 HST1
      clear ev2
      have c14 := H8.out.cellN 14 (c32_at (by rw [HV2.out]; decide))
      have f14 := H8.out.free 14
      have x14 : bits BinOp.xor IntKind.u32 (if IntKind.u32.signed = true then -1 else IntKind.u32.max) (M.gt v2 14 : Int) = ((M.gt v2 14 ^^^ 4294967295 : Nat) : Int) := by
        rw [Nat.xor_comm]
        exact u32_xor_nat 4294967295 (M.gt v2 14) (by decide) (M.gt_lt HS2.out 14)
      cases last
      all_goals
        go_upto_region 12 with (fail)
        first
        | (obtain ⟨w9, e9⟩ : ∃ w9, (w8.setCell ⟨bv, 14, none⟩ (.int .u32 ((M.gt v2 14 ^^^ 4294967295 : Nat) : Int))) = w9 := ⟨_, rfl⟩
           rw [e9]
           have h9 : Blk w9 bv (c32 (s3 v2)) 88 := by rw [← e9]; exact H8.out.c32_set 14 _
           have k9 : Keep (· = bv) w4 w9 := by rw [← e9]; exact HK8.out.set1 14 _
           have l9 : (s3 v2).length = 16 := by rw [s3, List.length_set, HV2.out]
           have s9 : M.Small (s3 v2) := small_s3 HS2.out
           have p9 : M.press h m n true = M.fold h (M.rounds (s3 v2) m M.orders) := by rw [M.press, HST1.out]
           generalize (s3 v2) = v3 at *)
        | (obtain ⟨w9, e9⟩ : ∃ w9, w8 = w9 := ⟨_, rfl⟩
           rw [e9]
           have h9 : Blk w9 bv (c32 v2) 88 := by rw [← e9]; exact H8.out
           have k9 : Keep (· = bv) w4 w9 := by rw [← e9]; exact HK8.out
           have l9 : v2.length = 16 := HV2.out
           have s9 : M.Small v2 := HS2.out
           have p9 : M.press h m n false = M.fold h (M.rounds v2 m M.orders) := by rw [M.press, HST0.out]
           generalize v2 = v3 at *)
        clear e9 c14 f14 x14 H8 HK8 HV2 HS2 HST0 HST1
        have H9 := Lib.hid h9
        have HK9 := Lib.hid k9
        have HV3 := Lib.hid l9
        have HS3 := Lib.hid s9
        have HP := Lib.hid p9
        clear h9 k9 l9 s9 p9
        obtain ⟨tO, fO, hbO⟩ := var_block num_orders (HT4.out.keep HK9.out (by have := HT.out.lt; have e : 0 = 0 := rfl; omega) (by have := HT.out.lt; have e : 1 = 1 := rfl; omega)).2
        have HBO := Lib.hid hbO
        clear hbO
        go_wp2_with (refine wpList_load_row rfl 129 (.global 1) rfl 1 rfl tO (c8 M.orders.flatten) fO (.array 10 128) HBO.out Tryz.underlying129 rfl size160 ?_)
        go_loopw [47] (fun i wr => ∃ k : Nat, k ≤ 10 ∧ i = .int .i64 k ∧ Blk wr bv (c32 (M.rounds v3 m (M.orders.take k))) 88 ∧ Keep (· = bv) w9 wr) (fun i _ => 10 - (intOf i).toNat)
        case atStart => exact ⟨0, by decide, rfl, H9.out, Keep.refl _ _⟩
        case round =>
          obtain ⟨k, hk, rfl, hb, kk⟩ := hrel
          have HB := Lib.hid hb
          have KK := Lib.hid kk
          clear hb kk
          by_cases hlt : k < 10
          · have hir := index_row k hlt wr
            have HRS := Lib.hid (rounds_step v3 m k hlt)
            have HVR := Lib.hid ((M.len_rounds (m := m) (M.orders.take k) v3).trans HV3.out)
            have HSR := Lib.hid (M.small_rounds (m := m) (M.orders.take k) HS3.out)
            have HOL := Lib.hid (orders_len k hlt)
            have HOG := Lib.hid (orders_gt k hlt)
            generalize M.rounds v3 m (M.orders.take k) = vk at *
            generalize M.orders.getD k [] = s at *
            have k10 : Keep (· = bv) w4 (wr.alloc (.cells (c8 s) 128)) := (HK9.out.trans KK.out).alloc _
            have G := Lib.hid (round_any bv bm wr.heap.size vk m s HVR.out HSR.out HML.out HMS.out HOL.out HOG.out (by omega) (by have := HB.out.lt; omega) (wr.alloc (.cells (c8 s) 128)) (HB.out.alloc _) (H1.out.keep k10 (by omega)) (Blk.new _ _ _))
            have hcs : (c8 s).size = 16 := by rw [c8_size, HOL.out]
            have hsc := run_storeCells_new (P := Tryz.prog) wr 128 #[.int .u8 0, .int .u8 0, .int .u8 0, .int .u8 0, .int .u8 0, .int .u8 0, .int .u8 0, .int .u8 0, .int .u8 0, .int .u8 0, .int .u8 0, .int .u8 0, .int .u8 0, .int .u8 0, .int .u8 0, .int .u8 0] (c8 s) (by rw [hcs]; exact size16b) (by rw [hcs]; rfl) (one8 s)
            clear k10
            go_wp2_with ((with_reducible refine G.out.mono ?_); rintro e w10 ⟨rfl, h10, k11⟩)
            go_roundw
            case rel => exact ⟨k + 1, by omega, by go_num, by rw [HRS.out]; exact h10, (KK.out.alloc _).trans k11⟩
            case measure => simp [intOf]; omega
          · obtain rfl : k = 10 := by omega
            have hb : Blk wr bv (c32 (M.rounds v3 m M.orders)) 88 := HB.out
            have HVR := Lib.hid ((M.len_rounds (m := m) M.orders v3).trans HV3.out)
            have HSR := Lib.hid (M.small_rounds (m := m) M.orders HS3.out)
            have hk11 : Keep (· = bv) w4 wr := HK9.out.trans KK.out
            have hh : Blk wr w.heap.size (c32 (foldTo h (M.rounds v3 m M.orders) 0)) 85 := by
              rw [foldTo_zero _ _ HL.out]; exact H0.out.keep hk11 (by omega)
            have hr2 : Blk wr br (c32 [0, 0, 0, 0, 0, 0, 0, 0]) 85 := H2.out.keep hk11 (by omega)
            have ho11 : Old w wr := Below.trans HO.out (hk11.below HO.out.size (fun q hq => by omega))
            clear hk HBO H1
            generalize M.rounds v3 m M.orders = vf at *
            have HHB := Lib.hid hb
            have HH := Lib.hid hh
            have HR2 := Lib.hid hr2
            have HO11 := Lib.hid ho11
            clear hb hh hr2 ho11 hk11 HB KK HK9 H9 HS3 HV3
            go_wp2
            go_loopw [52] (fun i wx => ∃ k : Nat, k ≤ 8 ∧ i = .int .i64 k ∧ Blk wx w.heap.size (c32 (foldTo h vf k)) 85 ∧ Keep (· = w.heap.size) wr wx) (fun i _ => 8 - (intOf i).toNat)
            case atStart => exact ⟨0, by decide, rfl, HH.out, Keep.refl _ _⟩
            case round =>
              obtain ⟨k, hk, rfl, hb, kk⟩ := hrel
              have HB := Lib.hid hb
              have KK := Lib.hid kk
              clear hb kk
              by_cases hlt : k < 8
              · have cv := HHB.out.keep KK.out (by omega)
                have c1 := cv.cellN k (c32_at (by rw [HVR.out]; omega))
                have c2 := cv.cellN (k + 8) (c32_at (by rw [HVR.out]; omega))
                have c3 := HB.out.cellN k (c32_at (by rw [len_foldTo]; exact hlt))
                have e3 : M.gt (foldTo h vf k) k = M.gt h k := by rw [foldTo_at _ _ _ _ hlt, if_neg (Nat.lt_irrefl _)]
                rw [e3] at c3
                have f3 := HB.out.free k
                have x1 := u32_xor_nat (M.gt vf k) (M.gt vf (k + 8)) (M.gt_lt HSR.out k) (M.gt_lt HSR.out (k + 8))
                have x2 := u32_xor_nat (M.gt h k) (M.gt vf k ^^^ M.gt vf (k + 8)) (M.gt_lt HS.out k) (M.xor_lt (M.gt_lt HSR.out k) (M.gt_lt HSR.out (k + 8)))
                have i1 : (k : Int) < 8 := by omega
                have i2 : (0 : Int) ≤ (k : Int) := by omega
                have i3 : (k : Int) < 16 := by omega
                have i4 : (k : Int) + 8 < 16 := by omega
                have i5 : (0 : Int) ≤ (k : Int) + 8 := by omega
                have i6 : IntKind.i64.wrap ((k : Int) + 8) = (k : Int) + 8 := IntWalk.i64_in _ (by omega)
                have i7 : ((k : Int) + 8).toNat = k + 8 := by omega
                clear cv e3
                go_wp2
                go_still_tail 13, (by kernel_rfl)
                change wpList _ _ _ _ _ wr.drew
                go_wp2
                refine ⟨?_, ?measure⟩
                refine ⟨_, _, _, _, _, _, _, _, _, _, _, _, _, _, _, _, _, _, ?rel, rfl⟩
                case rel =>
                  refine ⟨k + 1, by omega, by go_num, ?_, (KK.out.setCell (Or.inr rfl) _).drew⟩
                  have := HB.out.c32_set k (M.gt h k ^^^ (M.gt vf k ^^^ M.gt vf (k + 8)))
                  rw [foldTo_step _ _ _ hlt] at this
                  exact this
                case measure => simp [intOf]; omega
              · obtain rfl : k = 8 := by omega
                have hf : Blk wr w.heap.size (c32 (M.fold h vf)) 85 := by rw [← foldTo_all]; exact HB.out
                have HF := Lib.hid hf
                have HR := Lib.hid (HR2.out.keep KK.out (by omega))
                have HOF := Lib.hid (Below.trans HO11.out (KK.out.below HO11.out.size (fun q hq => by omega)))
                have HSZ := Lib.hid (show (c32 (M.fold h vf)).size = 8 by rw [c32_size, M.len_fold])
                have hs8 := HSZ.out
                have hsc := storeCells_blk wr br (c32 [0, 0, 0, 0, 0, 0, 0, 0]) (c32 (M.fold h vf)) 85 HR.out (by rw [HSZ.out]; exact size8) (by rw [HSZ.out]; rfl) (one32a _)
                go_wp2_with (refine wpList_load_row rfl 85 (.tmp 4) rfl w.heap.size rfl 85 (c32 (M.fold h vf)) (0, 0) (.array 8 84) HF.out Tryz.underlying85 rfl (by rw [HSZ.out]; exact size8) ?_)
                have HN := Lib.hid (Blk.setRow HR.out (c32 (M.fold h vf)))
                refine bodyPost_ret (v := .agg (c32 (M.fold h vf))) (results_cell_row (P := Tryz.prog) rfl _ _ br 85 _ (0, 0) (.array 8 84) rfl HN.out Tryz.underlying85 rfl (by rw [HSZ.out]; exact size8)) rfl ⟨by rw [HP.out], ?_⟩
                exact below_setRow HOF.out (by omega) _
end Go.Proofs.YtabcobadglgfkaaGreatDoor

/- The program's numbers of a block. -/
namespace Go.Proofs.YtabcobadglgfkaaGreatDoor
open Go.RowKit

def pad (d : List UInt8) : List Nat := (List.range 64).map (M.byte d)
theorem len_pad (d : List UInt8) : (pad d).length = 64 := by simp [pad]
theorem pad_at (d : List UInt8) (i : Nat) (hi : i < 64) : M.gt (pad d) i = M.byte d i := by
  simp [pad, M.gt, List.getD_eq_getElem?_getD, hi]
theorem pad_cells (d : List UInt8) (h : d.length ≤ 64) (z : List Value) (hz : z.length = 64) (hz0 : ∀ i (hi : i < z.length), z[i] = Value.int .u8 0) : (Lib.byteCells d ++ z.drop d.length).toArray = c8 (pad d) := by
  unfold c8 pad Lib.byteCells
  congr 1
  apply List.ext_getElem
  · simp [hz]; omega
  · intro i h1 h2
    simp at h2
    rw [List.getElem_append]
    split
    · rename_i hi
      simp at hi
      simp [M.byte, List.getD_eq_getElem?_getD, hi]
    · rename_i hi
      simp at hi
      have : d[i]? = none := List.getElem?_eq_none hi
      rw [List.getElem_drop, hz0]
      simp [M.byte, List.getD_eq_getElem?_getD, this]
theorem size1b : (Tryz.prog.info? 5).map (·.size) = some 1 := by kernel_rfl
theorem zeros_at (n i : Nat) (hi : i < n) : (c8 (List.replicate n 0)).toList[i]? = some (Value.int .u8 0) := by
  simp [c8, hi]
set_option maxRecDepth 100000 in
theorem copy_data (w : World) (b : Nat) (T : TypeId) (d : ByteArray) (h : d.size ≤ 64) (hb : Blk w b (c8 (List.replicate 64 0)) T) :
    (Builtin.copy_ #[55, 9] 3 #[.slice (some ⟨b, 0, none⟩) 64 64, .string d]).run Tryz.prog w = .ok (goInt d.size) (w.setRow b (c8 (pad d.data.toList))) := by
  have hl : (c8 (List.replicate 64 0)).toList.length = 64 := by rw [Array.length_toList, c8_size, List.length_replicate]
  have := Lib.run_copy_row_string (P := Tryz.prog) w 55 9 3 5 b 0 64 64 d (c8 (List.replicate 64 0)) T Tryz.underlying55 size1b hb h (by rw [c8_size, List.length_replicate]; omega)
  rw [this]
  congr 2
  rw [List.take_zero, List.nil_append, Nat.zero_add]
  exact pad_cells d.data.toList (by simpa using h) _ hl (fun i hi => by
    have := zeros_at 64 i (by omega)
    rw [List.getElem?_eq_getElem hi] at this
    exact Option.some.inj this)
theorem two_blocks (w : World) : ∃ w2 bb, ((w.alloc (.cells #[.int .u32 0, .int .u32 0, .int .u32 0, .int .u32 0, .int .u32 0, .int .u32 0, .int .u32 0, .int .u32 0, .int .u32 0, .int .u32 0, .int .u32 0, .int .u32 0, .int .u32 0, .int .u32 0, .int .u32 0, .int .u32 0] 88)).alloc (.cells #[.int .u8 0, .int .u8 0, .int .u8 0, .int .u8 0, .int .u8 0, .int .u8 0, .int .u8 0, .int .u8 0, .int .u8 0, .int .u8 0, .int .u8 0, .int .u8 0, .int .u8 0, .int .u8 0, .int .u8 0, .int .u8 0, .int .u8 0, .int .u8 0, .int .u8 0, .int .u8 0, .int .u8 0, .int .u8 0, .int .u8 0, .int .u8 0, .int .u8 0, .int .u8 0, .int .u8 0, .int .u8 0, .int .u8 0, .int .u8 0, .int .u8 0, .int .u8 0, .int .u8 0, .int .u8 0, .int .u8 0, .int .u8 0, .int .u8 0, .int .u8 0, .int .u8 0, .int .u8 0, .int .u8 0, .int .u8 0, .int .u8 0, .int .u8 0, .int .u8 0, .int .u8 0, .int .u8 0, .int .u8 0, .int .u8 0, .int .u8 0, .int .u8 0, .int .u8 0, .int .u8 0, .int .u8 0, .int .u8 0, .int .u8 0, .int .u8 0, .int .u8 0, .int .u8 0, .int .u8 0, .int .u8 0, .int .u8 0, .int .u8 0, .int .u8 0] 133)) = w2 ∧ w.heap.size + 1 = bb ∧ w2.heap.size = bb + 1 ∧
    Old w w2 ∧ Blk w2 w.heap.size (c32 (List.replicate 16 0)) 88 ∧ Blk w2 bb (c8 (List.replicate 64 0)) 133 := by
  refine ⟨_, _, rfl, rfl, by simp, ?_, ?_, ?_⟩
  · exact Below.alloc (Old.alloc w _) (by simp) _
  · exact (Blk.new w _ _).alloc _
  · have := Blk.new (w.alloc (.cells #[.int .u32 0, .int .u32 0, .int .u32 0, .int .u32 0, .int .u32 0, .int .u32 0, .int .u32 0, .int .u32 0, .int .u32 0, .int .u32 0, .int .u32 0, .int .u32 0, .int .u32 0, .int .u32 0, .int .u32 0, .int .u32 0] 88)) #[.int .u8 0, .int .u8 0, .int .u8 0, .int .u8 0, .int .u8 0, .int .u8 0, .int .u8 0, .int .u8 0, .int .u8 0, .int .u8 0, .int .u8 0, .int .u8 0, .int .u8 0, .int .u8 0, .int .u8 0, .int .u8 0, .int .u8 0, .int .u8 0, .int .u8 0, .int .u8 0, .int .u8 0, .int .u8 0, .int .u8 0, .int .u8 0, .int .u8 0, .int .u8 0, .int .u8 0, .int .u8 0, .int .u8 0, .int .u8 0, .int .u8 0, .int .u8 0, .int .u8 0, .int .u8 0, .int .u8 0, .int .u8 0, .int .u8 0, .int .u8 0, .int .u8 0, .int .u8 0, .int .u8 0, .int .u8 0, .int .u8 0, .int .u8 0, .int .u8 0, .int .u8 0, .int .u8 0, .int .u8 0, .int .u8 0, .int .u8 0, .int .u8 0, .int .u8 0, .int .u8 0, .int .u8 0, .int .u8 0, .int .u8 0, .int .u8 0, .int .u8 0, .int .u8 0, .int .u8 0, .int .u8 0, .int .u8 0, .int .u8 0, .int .u8 0] 133
    simp at this
    exact this
def numsTo (d : List UInt8) (k : Nat) : List Nat := (List.range 16).map fun i => if i < k then M.numAt d i else 0
theorem len_numsTo (d : List UInt8) (k : Nat) : (numsTo d k).length = 16 := by simp [numsTo]
theorem numsTo_all (d : List UInt8) : numsTo d 16 = M.nums d := by
  unfold numsTo M.nums
  apply List.map_congr_left
  intro i hi
  rw [if_pos (List.mem_range.1 hi)]
theorem numsTo_step (d : List UInt8) (k : Nat) : (numsTo d k).set k (M.numAt d k) = numsTo d (k + 1) := by
  apply List.ext_getElem
  · simp [len_numsTo]
  · intro i h1 h2
    rw [List.getElem_set]
    by_cases hik : k = i
    · subst hik
      simp [numsTo]
    · have e : (i < k + 1) ↔ (i < k) := by omega
      simp [numsTo, hik, e]

theorem or_sum (i x y : Nat) (hx : x % 2 ^ i = 0) (hy : y < 2 ^ i) : y ||| x = x + y := by rw [Nat.or_comm]; exact nat_join i x y hx hy
theorem four_or (x0 x1 x2 x3 : Nat) (h0 : x0 < 256) (h1 : x1 < 256) (h2 : x2 < 256) (h3 : x3 < 256) :
    bits .or .u32 (bits .or .u32 (bits .or .u32 (x0 : Int) ((x1 : Int) * 256)) ((x2 : Int) * 65536)) ((x3 : Int) * 16777216) = ((x0 + 256 * x1 + 65536 * x2 + 16777216 * x3 : Nat) : Int) := by
  have s1 : x0 ||| x1 * 256 = x0 + 256 * x1 := by rw [or_sum 8 _ _ (by omega) (by omega)]; omega
  have s2 : (x0 + 256 * x1) ||| x2 * 65536 = x0 + 256 * x1 + 65536 * x2 := by rw [or_sum 16 _ _ (by omega) (by omega)]; omega
  have s3 : (x0 + 256 * x1 + 65536 * x2) ||| x3 * 16777216 = x0 + 256 * x1 + 65536 * x2 + 16777216 * x3 := by rw [or_sum 24 _ _ (by omega) (by omega)]; omega
  have e1 := u32_or_nat x0 (x1 * 256) (by omega) (by omega)
  have e2 := u32_or_nat (x0 + 256 * x1) (x2 * 65536) (by omega) (by omega)
  have e3 := u32_or_nat (x0 + 256 * x1 + 65536 * x2) (x3 * 16777216) (by omega) (by omega)
  rw [show ((x1 : Int) * 256) = ((x1 * 256 : Nat) : Int) from by omega, show ((x2 : Int) * 65536) = ((x2 * 65536 : Nat) : Int) from by omega, show ((x3 : Int) * 16777216) = ((x3 * 16777216 : Nat) : Int) from by omega, e1, s1, e2, s2, e3, s3]

set_option maxHeartbeats 4000000 in
set_option maxRecDepth 100000 in
theorem numbers_any (d : ByteArray) (hd : d.size ≤ 64) (w : World) :
    Calls Tryz.prog 65 #[.string d] w fun e w' => e = .returned (.agg (c32 (M.nums d.data.toList))) ∧ Old w w' := by
  go_enter Tryz.func65, Tryz.ntmps65
  go_upto_region 2 with (fail)
  obtain ⟨w2, bb, e2, eb, hsz, ho2, hb0, hb1⟩ := two_blocks w
  rw [e2, eb]
  clear e2
  have hcp := copy_data w2 bb _ d hd hb1
  have hB1 : Blk (w2.setRow bb (c8 (pad d.data.toList))) bb (c8 (pad d.data.toList)) 133 := hb1.setRow _
  have hB0 : Blk (w2.setRow bb (c8 (pad d.data.toList))) w.heap.size (c32 (List.replicate 16 0)) 88 := hb0.keep ((Keep.refl (· = bb) w2).setRow (Or.inr rfl) _) (by omega)
  have hO3 : Old w (w2.setRow bb (c8 (pad d.data.toList))) := below_setRow ho2 (by omega) _
  have hs3 : (w2.setRow bb (c8 (pad d.data.toList))).heap.size = bb + 1 := by rw [setRow_size, hsz]
  have HB1 := Lib.hid hB1
  have HB0 := Lib.hid hB0
  have HO3 := Lib.hid hO3
  have HS3 := Lib.hid hs3
  clear hb0 hb1 hB1 hB0 hO3 hs3 ho2
  go_upto_region 3 with (fail)
  generalize w2.setRow bb (c8 (pad d.data.toList)) = w3 at *
  obtain ⟨w4, e4, ho4, hb4⟩ : ∃ w4, w3.alloc (.cells #[.int .u32 0, .int .u32 0, .int .u32 0, .int .u32 0, .int .u32 0, .int .u32 0, .int .u32 0, .int .u32 0, .int .u32 0, .int .u32 0, .int .u32 0, .int .u32 0, .int .u32 0, .int .u32 0, .int .u32 0, .int .u32 0] 88) = w4 ∧ Old w3 w4 ∧ Blk w4 (bb + 1) (c32 (numsTo d.data.toList 0)) 88 :=
    ⟨_, rfl, Old.alloc _ _, by rw [← HS3.out]; exact Blk.new w3 _ _⟩
  have hs3 := HS3.out
  have HB1' := Lib.hid (HB1.out.old ho4)
  have HB0' := Lib.hid (HB0.out.old ho4)
  have HO4 := Lib.hid (HO3.out.trans ho4)
  have HB4 := Lib.hid hb4
  clear ho4 hb4 HB1 HB0 HO3 hcp
  go_wp2
  clear e4 hs3 HS3
  go_loopw [5, 10] (fun _ i wr => ∃ k : Nat, k ≤ 16 ∧ i = .int .i64 k ∧ Blk wr (bb + 1) (c32 (numsTo d.data.toList k)) 88 ∧ Keep (· = bb + 1) w4 wr) (fun _ i _ => 16 - (intOf i).toNat)
  case atStart => exact ⟨0, by decide, rfl, HB4.out, Keep.refl _ _⟩
  case round =>
    obtain ⟨k, hk, rfl, hb, kk⟩ := hrel
    have HB := Lib.hid hb
    have KK := Lib.hid kk
    clear hb kk
    by_cases hlt : k < 16
    · have hbb : Blk wr bb (c8 (pad d.data.toList)) 133 := HB1'.out.keep KK.out (by omega)
      have hpl := len_pad d.data.toList
      have c0 := hbb.cellN (4 * k) (c8_at (by omega))
      have c1 := hbb.cellN (4 * k + 1) (c8_at (by omega))
      have c2 := hbb.cellN (4 * k + 2) (c8_at (by omega))
      have c3 := hbb.cellN (4 * k + 3) (c8_at (by omega))
      rw [pad_at _ _ (by omega)] at c0 c1 c2 c3
      have b0 := M.byte_lt d.data.toList (4 * k)
      have b1 := M.byte_lt d.data.toList (4 * k + 1)
      have b2 := M.byte_lt d.data.toList (4 * k + 2)
      have b3 := M.byte_lt d.data.toList (4 * k + 3)
      have HNUM := Lib.hid (show M.numAt d.data.toList k = M.byte d.data.toList (4 * k) + 256 * M.byte d.data.toList (4 * k + 1) + 65536 * M.byte d.data.toList (4 * k + 2) + 16777216 * M.byte d.data.toList (4 * k + 3) from rfl)
      generalize M.byte d.data.toList (4 * k) = x0 at *
      generalize M.byte d.data.toList (4 * k + 1) = x1 at *
      generalize M.byte d.data.toList (4 * k + 2) = x2 at *
      generalize M.byte d.data.toList (4 * k + 3) = x3 at *
      have hf := HB.out.free k
      have hce := HB.out.cellN k (c32_at (by rw [len_numsTo]; exact hlt))
      have i1 : (k : Int) < 16 := by omega
      have i2 : (0 : Int) ≤ (k : Int) := by omega
      clear hbb hpl
      have l1 : (0 : Int) ≤ 4 * (k : Int) := by omega
      have l2 : 4 * (k : Int) ≤ 4 * (k : Int) + 4 := by omega
      have l3 : 4 * (k : Int) + 4 ≤ 64 := by omega
      have l4 : (4 * (k : Int)).toNat = 4 * k := by omega
      have l5 : (4 * (k : Int) + 4).toNat = 4 * k + 4 := by omega

      go_wp2
      clear l1 l2 l3 l4 l5
      go_still_tail 24, (by kernel_rfl)
      change wpList _ _ _ _ _ wr.drew
      have HOR := Lib.hid (four_or x0 x1 x2 x3 b0 b1 b2 b3)
      go_wp2
      go_roundw
      case rel =>
        refine ⟨k + 1, by omega, by go_num, ?_, (KK.out.setCell (Or.inr rfl) _).drew⟩
        have := HB.out.c32_set k (M.numAt d.data.toList k)
        rw [numsTo_step, HNUM.out, ← HOR.out] at this
        exact this
      case measure => simp [intOf]; omega
    · obtain rfl : k = 16 := by omega
      have hf : Blk wr (bb + 1) (c32 (M.nums d.data.toList)) 88 := by rw [← numsTo_all]; exact HB.out
      have hr : Blk wr w.heap.size (c32 (List.replicate 16 0)) 88 := HB0'.out.keep KK.out (by omega)
      have hof : Old w wr := Below.trans HO4.out (KK.out.below HO4.out.size (fun q hq => by omega))
      have hs16 : (c32 (M.nums d.data.toList)).size = 16 := by rw [c32_size, M.len_nums]
      have hsc := storeCells_blk wr w.heap.size (c32 (List.replicate 16 0)) (c32 (M.nums d.data.toList)) 88 hr (by rw [hs16]; exact size16) (by rw [hs16]; rfl) (one32a _)
      have HF := Lib.hid hf
      have HR := Lib.hid hr
      have HOF := Lib.hid hof
      have HS16 := Lib.hid hs16
      clear hf hr hof
      go_wp2_with (refine wpList_load_row rfl 88 (.tmp 4) rfl (bb + 1) rfl 88 (c32 (M.nums d.data.toList)) (0, 0) (.array 16 84) HF.out Tryz.underlying88 rfl (by rw [HS16.out]; exact size16) ?_)
      have HN := Lib.hid (Blk.setRow HR.out (c32 (M.nums d.data.toList)))
      refine bodyPost_ret (v := .agg (c32 (M.nums d.data.toList))) (results_cell_row (P := Tryz.prog) rfl _ _ w.heap.size 88 _ (0, 0) (.array 16 84) rfl HN.out Tryz.underlying88 rfl (by rw [HS16.out]; exact size16)) rfl ⟨rfl, ?_⟩
      exact below_setRow HOF.out (Nat.le_refl _) _
end Go.Proofs.YtabcobadglgfkaaGreatDoor

/- The program's digest of numbers, and bytes in words. -/
namespace Go.Proofs.YtabcobadglgfkaaGreatDoor
open Go.RowKit

theorem wordS (c : UInt8) : M.word c = [97 + c / 16, 97 + c % 16] := rfl
theorem word_hi (c : UInt8) : (97 + c / 16 : UInt8).toNat = 97 + c.toNat / 16 := by
  have h := c.toNat_lt
  simp [UInt8.toNat_add, UInt8.toNat_div]
  omega
theorem word_lo (c : UInt8) : (97 + c % 16 : UInt8).toNat = 97 + c.toNat % 16 := by
  have h := c.toNat_lt
  simp [UInt8.toNat_add, UInt8.toNat_mod]
  omega
theorem len_words (l : List UInt8) : (M.words l).length = 2 * l.length := by
  unfold M.words
  induction l with
  | nil => rfl
  | cons x r ih => simp only [List.flatMap_cons, List.length_append, ih, M.word, List.length_cons, List.length_nil]; omega
theorem words_take (l : List UInt8) (k : Nat) (h : k < l.length) : M.words (l.take (k + 1)) = M.words (l.take k) ++ M.word l[k] := by
  rw [List.take_succ_eq_append_getElem h, M.words, List.flatMap_append]
  simp [M.words]

end Go.Proofs.YtabcobadglgfkaaGreatDoor

/- The program's digest of numbers. -/
namespace Go.Proofs.YtabcobadglgfkaaGreatDoor
open Go.RowKit

theorem digest_take (h : List Nat) (k : Nat) (hk : k < h.length) : M.digest (h.take (k + 1)) = M.digest (h.take k) ++ M.four (M.gt h k) := by
  rw [List.take_succ_eq_append_getElem hk, M.digest, List.flatMap_append]
  simp [M.digest, M.gt, List.getD_eq_getElem?_getD, hk]
theorem four_cells (x : Nat) : Lib.byteCells (M.four x) = [.int .u8 ((x : Int) % 256), .int .u8 ((x : Int) / 256 % 256), .int .u8 ((x : Int) / 65536 % 256), .int .u8 ((x : Int) / 16777216 % 256)] := by
  have e : ∀ n : Nat, (((UInt8.ofNat n).toNat : Nat) : Int) = (n : Int) % 256 := fun n => by
    rw [UInt8.toNat_ofNat']
    omega
  simp only [Lib.byteCells, M.four, List.map_cons, List.map_nil, e]
  simp

set_option maxHeartbeats 2000000 in
set_option maxRecDepth 100000 in
theorem digest_any (h : List Nat) (hl : h.length = 8) (hs : M.Small h) (w : World) :
    Calls Tryz.prog 66 #[.agg (c32 h)] w fun e w' => e = .returned (.string ⟨⟨M.digest h⟩⟩) ∧ Old w w' := by
  obtain ⟨i0, hi, hz0, hz1, hz2⟩ := info_parts infoByte
  obtain ⟨wb, ewb, hbb, hob, hsb⟩ : ∃ wb, w.alloc (.cells (c32 h) 85) = wb ∧ Blk wb w.heap.size (c32 h) 85 ∧ Old w wb ∧ w.heap.size + 1 = wb.heap.size := ⟨_, rfl, Blk.new w _ _, Old.alloc w _, by simp⟩
  obtain ⟨w1, hmk, hown0, hg0⟩ := run_make_own (P := Tryz.prog) wb w.heap.size 55 5 i0 (.int .u8 0) 1 Tryz.underlying55 hi hz0 hz1 .i64 .i64 32 (by rw [hz2]; decide) (by decide) (by omega)
  rw [show ((32 : Nat) : Int) = (32 : Int) from rfl] at hmk
  have HB := Lib.hid (hbb.grown hg0 (by intro h; cases h))
  have HO := Lib.hid (show Old w w1 from hob.trans ((Below.refl _ wb).grown hg0 (Nat.le_refl _) (fun g hg => by cases hg)))
  have HOWN := Lib.hid hown0
  clear hown0 hg0 hbb hob
  have HL := Lib.hid hl
  have HS := Lib.hid hs
  clear hl hs
  go_enter Tryz.func66, Tryz.ntmps66
  go_wp2_with (refine wpList_load_row rfl 85 (.tmp 1) rfl w.heap.size rfl 85 (c32 h) (0, 0) (.array 8 84) HB.out Tryz.underlying85 rfl (by rw [c32_size, HL.out]; exact size8) ?_)
  clear hmk ewb hsb
  go_loopw [3, 8] (fun o i wr => ∃ k : Nat, k ≤ 8 ∧ i = .int .i64 k ∧ wr.ownsRow w.heap.size 5 1 o (M.digest (h.take k)).length (Lib.byteCells (M.digest (h.take k))) ∧ Old w wr) (fun _ i _ => 8 - (intOf i).toNat)
  case atStart => exact ⟨0, Nat.zero_le _, rfl, HOWN.out, HO.out⟩
  case round =>
    obtain ⟨k, hk, rfl, hown, ho⟩ := hrel
    by_cases hlt : k < 8
    · have hp1 := digest_take h k (by rw [HL.out]; exact hlt)
      have hld := M.len_digest (h.take k)
      rw [List.length_take, HL.out, Nat.min_eq_left (by omega)] at hld
      have hx := M.gt_lt HS.out k
      have hix := index_num 85 8 h k Tryz.underlying85 hlt HL.out wr
      generalize M.digest (h.take k) = pk at *
      generalize M.gt h k = x at *
      have HF := Lib.hid (four_cells x)
      have HLF := Lib.hid (show (M.four x).length = 4 from rfl)
      have HP := Lib.hid hp1
      have HC3 := Lib.hid (show pk.length + 4 ≤ maxLen by unfold maxLen; omega)
      have HC4 := Lib.hid (show (pk.length + 4) * 1 ≤ 140737488355328 by omega)
      have hsz := ho.size
      have hown1 : (wr.alloc (.cells #[.int .u8 ((x : Int) % 256), .int .u8 ((x : Int) / 256 % 256), .int .u8 ((x : Int) / 65536 % 256), .int .u8 ((x : Int) / 16777216 % 256)] 5)).ownsRow w.heap.size 5 1 u3 pk.length (Lib.byteCells pk) := hown.alloc _
      have HNW := Lib.hid (World.news_of_block (heap_alloc_last wr (.cells #[.int .u8 ((x : Int) % 256), .int .u8 ((x : Int) / 256 % 256), .int .u8 ((x : Int) / 65536 % 256), .int .u8 ((x : Int) / 16777216 % 256)] 5)))
      have HC2 := Lib.hid (show ∀ u ∈ ([.int .u8 ((x : Int) % 256), .int .u8 ((x : Int) / 256 % 256), .int .u8 ((x : Int) / 65536 % 256), .int .u8 ((x : Int) / 16777216 % 256)] : List Value), u.oneCell' = true from by
        intro u hu
        simp only [List.mem_cons, List.not_mem_nil, or_false] at hu
        rcases hu with rfl | rfl | rfl | rfl <;> rfl)
      clear hld hp1
      go_wp2_with (at_builtin; refine wpList_append_own _ rfl _ _ 55 rfl w.heap.size 5 i0 (.int .u8 0) 1 1 Tryz.underlying55 hi hz0 hz1 hz2 rfl (by decide) _ _ _ rfl hown1 ⟨wr.heap.size, 0, none⟩ 4 4 [.int .u8 ((x : Int) % 256), .int .u8 ((x : Int) / 256 % 256), .int .u8 ((x : Int) / 65536 % 256), .int .u8 ((x : Int) / 16777216 % 256)] rfl rfl HNW.out HC2.out HC3.out HC4.out ?c5 ?_)
      case c5 => have : (wr.alloc (.cells #[.int .u8 ((x : Int) % 256), .int .u8 ((x : Int) / 256 % 256), .int .u8 ((x : Int) / 65536 % 256), .int .u8 ((x : Int) / 16777216 % 256)] 5)).heap.size = wr.heap.size + 1 := by simp
                 omega
      intro v' w2 hown2 hgrow _
      have ho2 : Old w w2 := Keep.old ((Keep.of_old (S := fun _ => False) (Below.alloc ho hsz _)).grown hgrow (fun g hg => Or.inl (row_from hown g hg))) (fun _ _ h => h)
      have hown3 : w2.ownsRow w.heap.size 5 1 v' (M.digest (h.take (k + 1))).length (Lib.byteCells (M.digest (h.take (k + 1)))) := by
        rw [HP.out, List.length_append, HLF.out]
        have e : Lib.byteCells (pk ++ M.four x) = Lib.byteCells pk ++ [.int .u8 ((x : Int) % 256), .int .u8 ((x : Int) / 256 % 256), .int .u8 ((x : Int) / 65536 % 256), .int .u8 ((x : Int) / 16777216 % 256)] := by rw [← HF.out]; simp [Lib.byteCells]
        rw [e]
        exact hown2
      have HOWN3 := Lib.hid hown3
      clear hown3 hown2
      go_wp2
      go_roundw
      case rel => exact ⟨k + 1, by omega, by go_num, HOWN3.out, ho2⟩
      case measure => simp [intOf]; omega
    · obtain rfl : k = 8 := by omega
      rw [List.take_of_length_le (by rw [HL.out]; exact Nat.le_refl _)] at hown
      have hconv := conv_row wr _ _ _ hown
      go_wp2
      go_ret
      exact ⟨rfl, ho⟩
end Go.Proofs.YtabcobadglgfkaaGreatDoor

/- The program's digest of bytes. -/
namespace Go.Proofs.YtabcobadglgfkaaGreatDoor
open Go.RowKit

theorem c32_lit {h : List Nat} (hl : h.length = 8) : c32 h = #[.int .u32 ((M.gt h 0 : Nat) : Int), .int .u32 ((M.gt h 1 : Nat) : Int), .int .u32 ((M.gt h 2 : Nat) : Int), .int .u32 ((M.gt h 3 : Nat) : Int), .int .u32 ((M.gt h 4 : Nat) : Int), .int .u32 ((M.gt h 5 : Nat) : Int), .int .u32 ((M.gt h 6 : Nat) : Int), .int .u32 ((M.gt h 7 : Nat) : Int)] := by
  match h, hl with
  | [a0, a1, a2, a3, a4, a5, a6, a7], _ => rfl
def strLen : Value → Nat
  | .string d => d.size
  | _ => 0
theorem sum_step (h : List Nat) (m : Nat) (d : List UInt8) (hd : 64 < d.length) : M.sumFrom (d.length + 1) h m d = M.sumFrom ((d.drop 64).length + 1) (M.press h (M.nums (d.take 64)) (m + 64) false) (m + 64) (d.drop 64) := by
  rw [M.sumFrom, if_neg (by omega)]
  exact M.sumFrom_more _ _ _ _ _ (by simp; omega) (by omega)
theorem sum_last (h : List Nat) (m : Nat) (d : List UInt8) (hd : d.length ≤ 64) : M.sumFrom (d.length + 1) h m d = M.press h (M.nums d) (m + d.length) true := by
  rw [M.sumFrom, if_pos hd]
theorem ex_take (d : ByteArray) (k : Nat) : (d.extract 0 k).data.toList = d.data.toList.take k := by simp [List.extract_eq_take_drop]
theorem ex_drop (d : ByteArray) (k : Nat) : (d.extract k d.size).data.toList = d.data.toList.drop k := by
  simp [List.extract_eq_take_drop]
  rw [List.take_of_length_le]
  simp

set_option maxHeartbeats 4000000 in
set_option maxRecDepth 100000 in
theorem sum_any (d0 : ByteArray) (hd : d0.size ≤ 1099511627776) (w : World) (ht : Tabs w) :
    Calls Tryz.prog 30 #[.string d0] w fun e w' => e = .returned (.string ⟨⟨M.sum d0.data.toList⟩⟩) ∧ Old w w' := by
  obtain ⟨tI, fI, hbI⟩ := var_block num_initial ht.1
  have HBI := Lib.hid hbI
  have HT := Lib.hid ht
  have hlt := ht.lt
  clear hbI ht
  have hs8 : (c32 M.iv).size = 8 := rfl
  have hsc := run_storeCells_new (P := Tryz.prog) w 85 #[.int .u32 0, .int .u32 0, .int .u32 0, .int .u32 0, .int .u32 0, .int .u32 0, .int .u32 0, .int .u32 0] (c32 M.iv) (by rw [hs8]; exact size8) rfl (one32a _)
  have hb1 : Blk (w.alloc (.cells (c32 M.iv) 85)) w.heap.size (c32 M.iv) 85 := Blk.new w _ _
  have c0 : (w.alloc (.cells (c32 M.iv) 85)).cell? ⟨w.heap.size, 0, none⟩ = some (.int .u32 1779033703) := hb1.cellN 0 (c32_at (v := M.iv) (by decide))
  have f0 := hb1.free 0
  have x0 : bits .xor .u32 1779033703 16842784 = ((M.gt M.iv 0 ^^^ 16842784 : Nat) : Int) := by decide +kernel
  have HB1 := Lib.hid hb1
  clear hb1
  go_enter Tryz.func30, Tryz.ntmps30
  go_wp2_with (refine wpList_load_row rfl 85 (.global 0) rfl 0 rfl tI (c32 M.iv) fI (.array 8 84) HBI.out Tryz.underlying85 rfl size8 ?_)
  have hst : Blk (w.alloc (.cells ((c32 M.iv).setIfInBounds 0 (.int .u32 ((M.gt M.iv 0 ^^^ 16842784 : Nat) : Int))) 85)) w.heap.size (c32 M.h0) 85 := by
    rw [Proofs.YtabcobadglgfkaaGreatDoor.c32_set]
    exact Blk.new w _ _
  have HST := Lib.hid hst
  clear hst hsc hs8 c0 f0 x0 HB1 HBI
  go_loopw [0, 4] (fun s n wr => ∃ (d : ByteArray) (m : Nat) (h : List Nat), s = .string d ∧ n = .int .u64 m ∧ m + d.size = d0.size ∧ h.length = 8 ∧ M.Small h ∧ M.sumFrom (d.data.toList.length + 1) h m d.data.toList = M.sumFrom (d0.data.toList.length + 1) M.h0 0 d0.data.toList ∧ Blk wr w.heap.size (c32 h) 85 ∧ Old w wr) (fun s _ _ => strLen s)
  case atStart => exact ⟨d0, 0, M.h0, rfl, rfl, by omega, rfl, M.small_h0, rfl, HST.out, Old.alloc w _⟩
  case round =>
    obtain ⟨d, m, h, rfl, rfl, hmd, hl, hs, hsum, hb, ho⟩ := hrel
    have HS := Lib.hid hs
    have HSUM := Lib.hid hsum
    have HMD := Lib.hid hmd
    have hm : m ≤ 1099511627776 := by omega
    have hdl : d.data.toList.length = d.size := by simp
    have HDL := Lib.hid hdl
    clear hsum hs hdl
    have HL := Lib.hid hl
    clear hl
    have HBB := Lib.hid hb
    by_cases hbig : 64 < d.size
    · have hex : (d.extract 0 64).size ≤ 64 := by rw [ByteArray.size_extract]; omega
      have gn := fun w1 => numbers_any (d.extract 0 64) hex w1
      simp only [ex_take] at gn
      have GN := Lib.hid gn
      clear gn
      obtain ⟨X, hX⟩ : ∃ X, M.press h (M.nums (d.data.toList.take 64)) (m + 64) false = X := ⟨_, rfl⟩
      have GC := Lib.hid (fun w1 ht1 => (show Calls Tryz.prog 64 #[.agg #[.int .u32 ((M.gt h 0 : Nat) : Int), .int .u32 ((M.gt h 1 : Nat) : Int), .int .u32 ((M.gt h 2 : Nat) : Int), .int .u32 ((M.gt h 3 : Nat) : Int), .int .u32 ((M.gt h 4 : Nat) : Int), .int .u32 ((M.gt h 5 : Nat) : Int), .int .u32 ((M.gt h 6 : Nat) : Int), .int .u32 ((M.gt h 7 : Nat) : Int)], .agg (c32 (M.nums (d.data.toList.take 64))), .int .u64 ((m : Int) + 64), .bool false] w1 (fun e w' => e = .returned (.agg (c32 X)) ∧ Old w1 w') from by
        rw [← hX, ← c32_lit HL.out]
        exact compress_any h (M.nums (d.data.toList.take 64)) HL.out HS.out (M.len_nums _) (M.small_nums _) (m + 64) (by omega) false w1 ht1))
      have hlX : X.length = 8 := by rw [← hX, M.len_press]
      have HSX := Lib.hid (show M.Small X from by rw [← hX]; exact M.small_press HS.out _ _ _)
      have HLX := Lib.hid hlX
      have hsX : (c32 X).size = 8 := by rw [c32_size, hlX]
      have HX := Lib.hid hX
      have HTr := Lib.hid (HT.out.old ho)
      clear hX hlX
      go_upto_region 6 with (fail)
      have q0 := hb.cellN 0 (c32_at (by rw [HL.out]; decide))
      have q1 := hb.cellN 1 (c32_at (by rw [HL.out]; decide))
      have q2 := hb.cellN 2 (c32_at (by rw [HL.out]; decide))
      have q3 := hb.cellN 3 (c32_at (by rw [HL.out]; decide))
      have q4 := hb.cellN 4 (c32_at (by rw [HL.out]; decide))
      have q5 := hb.cellN 5 (c32_at (by rw [HL.out]; decide))
      have q6 := hb.cellN 6 (c32_at (by rw [HL.out]; decide))
      have q7 := hb.cellN 7 (c32_at (by rw [HL.out]; decide))

      apply cut_here
      · intro key
        go_region_with (first
          | ((with_reducible refine (GN.out _).mono ?_); rintro e w1 ⟨rfl, o1⟩; have o1' : Old wr w1 := Below.trans ((Below.refl _ wr).drew) o1; have hb1 := HBB.out.old o1'; have q0 := hb1.cellN 0 (c32_at (by rw [HL.out]; decide)); have q1 := hb1.cellN 1 (c32_at (by rw [HL.out]; decide)); have q2 := hb1.cellN 2 (c32_at (by rw [HL.out]; decide)); have q3 := hb1.cellN 3 (c32_at (by rw [HL.out]; decide)); have q4 := hb1.cellN 4 (c32_at (by rw [HL.out]; decide)); have q5 := hb1.cellN 5 (c32_at (by rw [HL.out]; decide)); have q6 := hb1.cellN 6 (c32_at (by rw [HL.out]; decide)); have q7 := hb1.cellN 7 (c32_at (by rw [HL.out]; decide)))
          | ((with_reducible refine (GC.out _ (HTr.out.old o1')).mono ?_); rintro e w2 ⟨rfl, o2⟩; have hb2 := hb1.old o2; have hsc := storeCells_blk w2 w.heap.size (c32 h) (c32 X) 85 hb2 (by rw [hsX]; exact size8) (by rw [hsX, c32_size, HL.out]) (one32a _)))
        all_goals (have o12 : Old wr w2 := o1'.trans o2; clear hsc o2; revert w2; exact key.out)
      intro w2 hb2 o12
      have hb3 : Blk (w2.setRow w.heap.size (c32 X)) w.heap.size (c32 X) 85 := hb2.setRow _
      have ho3 : Old w (w2.setRow w.heap.size (c32 X)) := below_setRow (Below.trans ho (o12.mono ho.size)) (Nat.le_refl _) _
      generalize w2.setRow w.heap.size (c32 X) = w3 at *
      have hds : 64 < d.data.toList.length := by rw [HDL.out]; exact hbig
      have hsum2 := HSUM.out
      rw [sum_step h m _ hds, HX.out, ← ex_drop] at hsum2
      have HSUM2 := Lib.hid hsum2
      have HSZ := Lib.hid (show m + 64 + (d.extract 64 d.size).size = d0.size by rw [ByteArray.size_extract]; omega)
      have HME := Lib.hid (show (d.extract 64 d.size).size < d.size by rw [ByteArray.size_extract]; omega)
      clear hsum2 q0 q1 q2 q3 q4 q5 q6 q7 GN GC hb2
      go_wp2
      go_roundw
      case rel => exact ⟨d.extract 64 d.size, m + 64, X, rfl, by go_num, HSZ.out, HLX.out, HSX.out, HSUM2.out, hb3, ho3⟩
      case measure => exact HME.out
    · have gn := fun w1 => numbers_any d (by omega) w1
      have GN := Lib.hid gn
      clear gn
      obtain ⟨X, hX⟩ : ∃ X, M.press h (M.nums d.data.toList) (m + d.size) true = X := ⟨_, rfl⟩
      have GC := Lib.hid (fun w1 ht1 => (show Calls Tryz.prog 64 #[.agg #[.int .u32 ((M.gt h 0 : Nat) : Int), .int .u32 ((M.gt h 1 : Nat) : Int), .int .u32 ((M.gt h 2 : Nat) : Int), .int .u32 ((M.gt h 3 : Nat) : Int), .int .u32 ((M.gt h 4 : Nat) : Int), .int .u32 ((M.gt h 5 : Nat) : Int), .int .u32 ((M.gt h 6 : Nat) : Int), .int .u32 ((M.gt h 7 : Nat) : Int)], .agg (c32 (M.nums d.data.toList)), .int .u64 ((m : Int) + (d.size : Int)), .bool true] w1 (fun e w' => e = .returned (.agg (c32 X)) ∧ Old w1 w') from by
        rw [← hX, ← c32_lit HL.out]
        exact compress_any h (M.nums d.data.toList) HL.out HS.out (M.len_nums _) (M.small_nums _) (m + d.size) (by omega) true w1 ht1))
      have hlX : X.length = 8 := by rw [← hX, M.len_press]
      have HSX := Lib.hid (show M.Small X from by rw [← hX]; exact M.small_press HS.out _ _ _)
      have HLX := Lib.hid hlX
      have hsX : (c32 X).size = 8 := by rw [c32_size, hlX]
      have HSX8 := Lib.hid hsX
      have hfin : M.sumFrom (d0.data.toList.length + 1) M.h0 0 d0.data.toList = X := by
        rw [← HSUM.out, sum_last h m _ (by rw [HDL.out]; omega), HDL.out, hX]
      have HFIN := Lib.hid (show M.sum d0.data.toList = M.digest X from by rw [M.sum, hfin])
      have HTr := Lib.hid (HT.out.old ho)
      clear hX hlX hfin
      have hw1 : IntKind.u64.wrap (d.size : Int) = (d.size : Int) := by rw [IntKind.wrap_u64]; omega
      have hw2 : IntKind.u64.wrap ((m : Int) + (d.size : Int)) = (m : Int) + (d.size : Int) := by rw [IntKind.wrap_u64]; omega
      go_upto_region 8 with (fail)
      have q0 := hb.cellN 0 (c32_at (by rw [HL.out]; decide))
      have q1 := hb.cellN 1 (c32_at (by rw [HL.out]; decide))
      have q2 := hb.cellN 2 (c32_at (by rw [HL.out]; decide))
      have q3 := hb.cellN 3 (c32_at (by rw [HL.out]; decide))
      have q4 := hb.cellN 4 (c32_at (by rw [HL.out]; decide))
      have q5 := hb.cellN 5 (c32_at (by rw [HL.out]; decide))
      have q6 := hb.cellN 6 (c32_at (by rw [HL.out]; decide))
      have q7 := hb.cellN 7 (c32_at (by rw [HL.out]; decide))

      apply cut_here
      · intro key
        go_region_with (first
          | ((with_reducible refine (GN.out _).mono ?_); rintro e w1 ⟨rfl, o1⟩; have o1' : Old wr w1 := Below.trans ((Below.refl _ wr).drew) o1; have hb1 := HBB.out.old o1'; have q0 := hb1.cellN 0 (c32_at (by rw [HL.out]; decide)); have q1 := hb1.cellN 1 (c32_at (by rw [HL.out]; decide)); have q2 := hb1.cellN 2 (c32_at (by rw [HL.out]; decide)); have q3 := hb1.cellN 3 (c32_at (by rw [HL.out]; decide)); have q4 := hb1.cellN 4 (c32_at (by rw [HL.out]; decide)); have q5 := hb1.cellN 5 (c32_at (by rw [HL.out]; decide)); have q6 := hb1.cellN 6 (c32_at (by rw [HL.out]; decide)); have q7 := hb1.cellN 7 (c32_at (by rw [HL.out]; decide)))
          | ((with_reducible refine (GC.out _ (HTr.out.old o1')).mono ?_); rintro e w2 ⟨rfl, o2⟩; have hb2 := hb1.old o2; have hsc := storeCells_blk w2 w.heap.size (c32 h) (c32 X) 85 hb2 (by rw [hsX]; exact size8) (by rw [hsX, c32_size, HL.out]) (one32a _)))
        all_goals (have o12 : Old wr w2 := o1'.trans o2; clear hsc o2; revert w2; exact key.out)
      intro w2 hb2 o12
      have hb3 : Blk (w2.setRow w.heap.size (c32 X)) w.heap.size (c32 X) 85 := hb2.setRow _
      have ho3 : Old w (w2.setRow w.heap.size (c32 X)) := below_setRow (Below.trans ho (o12.mono ho.size)) (Nat.le_refl _) _
      generalize w2.setRow w.heap.size (c32 X) = w3 at *
      have HB3 := Lib.hid hb3
      have GD := Lib.hid (digest_any X HLX.out HSX.out w3)
      clear q0 q1 q2 q3 q4 q5 q6 q7 GN GC hb2 hb3 hb
      go_wp2_with (first
        | (refine wpList_load_row rfl 85 (.tmp 3) rfl w.heap.size rfl 85 (c32 X) (0, 0) (.array 8 84) HB3.out Tryz.underlying85 rfl (by rw [HSX8.out]; exact size8) ?_)
        | ((with_reducible refine GD.out.mono ?_); rintro e w4 ⟨rfl, o4⟩))
      go_ret
      exact ⟨by rw [HFIN.out]; rfl, Below.trans ho3 (o4.mono ho3.size)⟩
end Go.Proofs.YtabcobadglgfkaaGreatDoor
