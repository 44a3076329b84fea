/- Merged of: RefBD. -/
import Derived.Test.YtabcobadglgfkaaGreatDoorMB3
import Derived.Deep.AppendLies
import Derived.Deep.DeepCutAuto
import Derived.Deep.CutBlock
/- The document's pressing of a block. -/
namespace Go.Proofs.YtabcobadglgfkaaGreatDoor
open Go.RowKit

theorem infoInt : (Tryz.prog.info? 3).map (fun i => (i.zero, i.size, i.bytes)) = some (some (.int .i64 0), 1, 8) := by kernel_rfl
theorem nums_take (d : List UInt8) (k : Nat) (hk : k < 16) : l64 ((M.nums d).take (k + 1)) = l64 ((M.nums d).take k) ++ [.int .i64 ((M.numAt d k : Nat) : Int)] := by
  have hl : k < (M.nums d).length := by rw [M.len_nums]; exact hk
  rw [List.take_succ_eq_append_getElem hl, l64, List.map_append]
  simp [l64, M.nums]
theorem row_of_owns {w : World} {B : Nat} {e : TypeId} {v : Value} {n : Nat} {xs : List Value} (h : w.ownsRow B e 1 v n xs) (hn : 0 < n) : ∃ g cap, v = .slice (some ⟨g, 0, none⟩) n cap ∧ B ≤ g ∧ Row w g xs e := by
  rcases h.2 with ⟨_, h0⟩ | ⟨g, cap, cur, hv, hb, hg, hc1, hc2, hsz, ht⟩
  · omega
  · refine ⟨g, cap, hv, hb, cur.toList.drop (n * 1), ?_⟩
    rw [← ht, List.take_append_drop]
    exact hg
theorem row_of_slice {w : World} {B : Nat} {e : TypeId} {g cap n : Nat} {xs : List Value} (h : w.ownsRow B e 1 (.slice (some ⟨g, 0, none⟩) n cap) n xs) (hn : 0 < n) : Row w g xs e := by
  obtain ⟨g', cap', hv, _, hr⟩ := row_of_owns h hn
  injection hv with h1 _ _
  injection h1 with h1
  injection h1 with h1 _ _
  rw [h1]
  exact hr
theorem byte_at (s : ByteArray) (i : Nat) (h : i < s.size) : M.byte s.data.toList i = (s[i]'h).toNat := by
  have hl : i < s.data.toList.length := by simpa using h
  rw [M.byte, List.getD_eq_getElem?_getD, List.getElem?_eq_getElem hl]
  simp
  rfl
theorem one64 (v : List Nat) : ∀ u ∈ l64 v, u.oneCell' = true := by
  intro u hu
  obtain ⟨n, _, rfl⟩ := List.mem_map.1 hu
  rfl
theorem Row.news {w : World} {b : Nat} {xs : List Value} {T : TypeId} (h : Row w b xs T) : ∀ j u, xs[j]? = some u → w.cell? ((⟨b, 0, none⟩ : Addr).add j) = some u := by
  intro j u hu
  rw [add_at]
  exact h.cellN j hu
theorem Row.grown {w w' : World} {row : Option Nat} {b : Nat} {xs : List Value} {T : TypeId} (h : Row w b xs T) (hg : w.grownBy w' row) (hr : row ≠ some b) : Row w' b xs T := by
  obtain ⟨rest, h⟩ := h
  exact ⟨rest, h.grown hg hr⟩
theorem Keep.cellIn {S : Nat → Prop} {w w' : World} (k : Keep S w w') {a : Addr} {u : Value} (h : w.cell? a = some u) (hs : ¬ S a.block) : w'.cell? a = some u :=
  (World.cell?_of_block (k.block _ (World.block_lt_of_cell? _ _ h) hs)).trans h
theorem RowsIn.keep {S : Nat → Prop} {B : Nat} {w w' : World} {g : Nat} (h : RowsIn B w g) (k : Keep S w w') (hg : ¬ S g) (hS : ∀ q, B ≤ q → ¬ S q) : RowsIn B w' g := by
  intro i hi
  obtain ⟨gk, h1, h2, h3⟩ := h i hi
  exact ⟨gk, h1, k.cellIn h2 hg, h3.keep k (hS gk h1)⟩
theorem l64_append (a b : List Nat) : l64 a ++ l64 b = l64 (a ++ b) := by simp [l64]
theorem rmix_at (bv cap : Nat) (v : List Nat) (hl : v.length = 16) (hs : M.Small v) (a b c d x y : Nat) (A B C D : Int) (h : A = (a : Int) ∧ B = (b : Int) ∧ C = (c : Int) ∧ D = (d : Int) ∧ a < 16 ∧ b < 16 ∧ c < 16 ∧ d < 16)
    (hx : x < 4294967296) (hy : y < 4294967296) (w : World) (hv : Row w bv (l64 v) 3) :
    Calls Tryz.prog 107 #[.slice (some ⟨bv, 0, none⟩) 16 cap, .int .i64 A, .int .i64 B, .int .i64 C, .int .i64 D, .int .i64 x, .int .i64 y] w fun e w' =>
      e = .returned (.tuple #[]) ∧ Row w' bv (l64 (M.mix v a b c d x y)) 3 ∧ Keep (· = bv) w w' := by
  obtain ⟨rfl, rfl, rfl, rfl, h1, h2, h3, h4⟩ := h
  exact rmix_any bv cap v hl hs a b c d x y h1 h2 h3 h4 hx hy w hv

set_option maxHeartbeats 16000000 in
set_option maxRecDepth 100000 in
theorem press_any (bh ch : Nat) (h : List Nat) (hl : h.length = 8) (hs : M.Small h) (s : ByteArray) (h64 : s.size = 64) (n : Nat) (hn : n ≤ 1099511627776) (last : Bool) (w : World) (hh : Row w bh (l64 h) 3) :
    Calls Tryz.prog 76 #[.slice (some ⟨bh, 0, none⟩) 8 ch, .string s, .int .i64 n, .bool last] w fun e w' =>
      e = .returned (.tuple #[]) ∧ Row w' bh (l64 (M.press h (M.nums s.data.toList) n last)) 3 ∧ Keep (· = bh) w w' := by
  obtain ⟨i0, hi, hz0, hz1, hz2⟩ := info_parts infoInt
  have HL := Lib.hid hl
  have HS := Lib.hid hs
  have HH := Lib.hid hh
  have hbh := hh.lt
  clear hl hs hh
  go_enter Tryz.func76, Tryz.ntmps76
  go_wp2
  go_loopw [8, 9] (fun o i wr => ∃ k : Nat, k ≤ 16 ∧ i = .int .i64 k ∧ wr.ownsRow w.heap.size 3 1 o k (l64 ((M.nums s.data.toList).take k)) ∧ Old w wr) (fun _ i _ => 16 - (intOf i).toNat)
  case atStart => exact ⟨0, Nat.zero_le _, rfl, World.ownsRow_nil _ _ _ _, Below.refl _ _⟩
  case round =>
    obtain ⟨k, hk, rfl, hown, ho⟩ := hrel
    by_cases hlt : k < 16
    · have hp1 := nums_take s.data.toList k hlt
      have hb0 := byte_at s (4 * k) (by omega)
      have hb1 := byte_at s (4 * k + 1) (by omega)
      have hb2 := byte_at s (4 * k + 2) (by omega)
      have hb3 := byte_at s (4 * k + 3) (by omega)
      have hnum : M.numAt s.data.toList k = M.byte s.data.toList (4 * k) + 256 * M.byte s.data.toList (4 * k + 1) + 65536 * M.byte s.data.toList (4 * k + 2) + 16777216 * M.byte s.data.toList (4 * k + 3) := rfl
      rw [hb0, hb1, hb2, hb3] at hnum
      clear hb0 hb1 hb2 hb3
      obtain ⟨c0, g0⟩ : ∃ c, s[4 * k]'(by omega) = c := ⟨_, rfl⟩
      obtain ⟨c1, g1⟩ : ∃ c, s[4 * k + 1]'(by omega) = c := ⟨_, rfl⟩
      obtain ⟨c2, g2⟩ : ∃ c, s[4 * k + 2]'(by omega) = c := ⟨_, rfl⟩
      obtain ⟨c3, g3⟩ : ∃ c, s[4 * k + 3]'(by omega) = c := ⟨_, rfl⟩
      rw [g0, g1, g2, g3] at hnum
      rw [hnum, show (((c0.toNat + 256 * c1.toNat + 65536 * c2.toNat + 16777216 * c3.toNat : Nat) : Int)) = (c0.toNat : Int) + 256 * (c1.toNat : Int) + 65536 * (c2.toNat : Int) + 16777216 * (c3.toNat : Int) from by omega] at hp1
      have HP := Lib.hid hp1
      clear hp1 hnum
      generalize l64 ((M.nums s.data.toList).take k) = pk at *
      have hc0 := c0.toNat_lt
      have hc1 := c1.toNat_lt
      have hc2 := c2.toNat_lt
      have hc3 := c3.toNat_lt
      have l0 : (4 * (k : Int)).toNat = 4 * k := by omega
      have q0 : (0 : Int) ≤ 4 * (k : Int) := by omega
      have j0 : 4 * (k : Int) < 64 := by omega
      have n0 : 4 * k < s.size := by omega
      have m0 : 4 * k < 64 := by omega
      have r0 : IntKind.i64.wrap (4 * (k : Int)) = 4 * (k : Int) := IntWalk.i64_in _ (by omega)
      have s0 : IntKind.i64.wrap ((c0.toNat : Int)) = (c0.toNat : Int) := IntWalk.i64_in _ (by omega)
      have l1 : (4 * (k : Int) + 1).toNat = 4 * k + 1 := by omega
      have q1 : (0 : Int) ≤ 4 * (k : Int) + 1 := by omega
      have j1 : 4 * (k : Int) + 1 < 64 := by omega
      have n1 : 4 * k + 1 < s.size := by omega
      have m1 : 4 * k + 1 < 64 := by omega
      have r1 : IntKind.i64.wrap (4 * (k : Int) + 1) = 4 * (k : Int) + 1 := IntWalk.i64_in _ (by omega)
      have s1 : IntKind.i64.wrap ((c1.toNat : Int)) = (c1.toNat : Int) := IntWalk.i64_in _ (by omega)
      have l2 : (4 * (k : Int) + 2).toNat = 4 * k + 2 := by omega
      have q2 : (0 : Int) ≤ 4 * (k : Int) + 2 := by omega
      have j2 : 4 * (k : Int) + 2 < 64 := by omega
      have n2 : 4 * k + 2 < s.size := by omega
      have m2 : 4 * k + 2 < 64 := by omega
      have r2 : IntKind.i64.wrap (4 * (k : Int) + 2) = 4 * (k : Int) + 2 := IntWalk.i64_in _ (by omega)
      have s2 : IntKind.i64.wrap ((c2.toNat : Int)) = (c2.toNat : Int) := IntWalk.i64_in _ (by omega)
      have l3 : (4 * (k : Int) + 3).toNat = 4 * k + 3 := by omega
      have q3 : (0 : Int) ≤ 4 * (k : Int) + 3 := by omega
      have j3 : 4 * (k : Int) + 3 < 64 := by omega
      have n3 : 4 * k + 3 < s.size := by omega
      have m3 : 4 * k + 3 < 64 := by omega
      have r3 : IntKind.i64.wrap (4 * (k : Int) + 3) = 4 * (k : Int) + 3 := IntWalk.i64_in _ (by omega)
      have s3 : IntKind.i64.wrap ((c3.toNat : Int)) = (c3.toNat : Int) := IntWalk.i64_in _ (by omega)
      have t4 : IntKind.i64.wrap (256 * (c1.toNat : Int)) = 256 * (c1.toNat : Int) := IntWalk.i64_in _ (by omega)
      have t5 : IntKind.i64.wrap (65536 * (c2.toNat : Int)) = 65536 * (c2.toNat : Int) := IntWalk.i64_in _ (by omega)
      have t6 : IntKind.i64.wrap (16777216 * (c3.toNat : Int)) = 16777216 * (c3.toNat : Int) := IntWalk.i64_in _ (by omega)
      have t7 : IntKind.i64.wrap ((c0.toNat : Int) + 256 * (c1.toNat : Int)) = (c0.toNat : Int) + 256 * (c1.toNat : Int) := IntWalk.i64_in _ (by omega)
      have t8 : IntKind.i64.wrap ((c0.toNat : Int) + 256 * (c1.toNat : Int) + 65536 * (c2.toNat : Int)) = (c0.toNat : Int) + 256 * (c1.toNat : Int) + 65536 * (c2.toNat : Int) := IntWalk.i64_in _ (by omega)
      have t9 : IntKind.i64.wrap ((c0.toNat : Int) + 256 * (c1.toNat : Int) + 65536 * (c2.toNat : Int) + 16777216 * (c3.toNat : Int)) = (c0.toNat : Int) + 256 * (c1.toNat : Int) + 65536 * (c2.toNat : Int) + 16777216 * (c3.toNat : Int) := IntWalk.i64_in _ (by omega)
      have hsz := ho.size
      have HC2 := Lib.hid (show ∀ u ∈ [Value.int .i64 ((c0.toNat : Int) + 256 * (c1.toNat : Int) + 65536 * (c2.toNat : Int) + 16777216 * (c3.toNat : Int))], u.oneCell' = true from by
        intro u hu
        rw [List.mem_singleton.1 hu]; rfl)
      have HC3 := Lib.hid (show k + 1 ≤ maxLen by unfold maxLen; omega)
      have HC4 := Lib.hid (show (k + 1) * 8 ≤ 140737488355328 by omega)
      go_upto_region 4 with (fail)
      refine wp_region_any (by kernel_rfl) ?_
      change wpAny _ _ _ _ _ _ _ (World.drew _)
      refine wpAny_take (i := 0) (v := ?_) rfl (by kernel_rfl) (by kernel_rfl) (by kernel_rfl) (fun _ _ _ h => h) (Or.inl ⟨by rfl, ?_⟩) ?_
      rotate_left
      · intro w'; go_simp; try with_reducible rfl
      refine wpAny_take (i := 1) (v := ?_) rfl (by kernel_rfl) (by kernel_rfl) (by kernel_rfl) (fun _ _ _ h => h) (Or.inl ⟨by rfl, ?_⟩) ?_
      rotate_left
      · intro w'; go_simp; try with_reducible rfl
      refine wpAny_take (i := 2) (v := ?_) rfl (by kernel_rfl) (by kernel_rfl) (by kernel_rfl) (fun _ _ _ h => h) (Or.inl ⟨by rfl, ?_⟩) ?_
      rotate_left
      · intro w'; go_simp; try with_reducible rfl
      refine wpAny_take (i := 3) (v := ?_) rfl (by kernel_rfl) (by kernel_rfl) (by kernel_rfl) (fun _ _ _ h => h) (Or.inl ⟨by rfl, ?_⟩) ?_
      rotate_left
      · intro w'; go_simp; try with_reducible rfl
      refine wpAny_take (i := 4) (v := ?_) rfl (by kernel_rfl) (by kernel_rfl) (by kernel_rfl) (fun _ _ _ h => h) (Or.inl ⟨by rfl, ?_⟩) ?_
      rotate_left
      · intro w'; go_simp; try with_reducible rfl
      refine wpAny_take (i := 5) (v := ?_) rfl (by kernel_rfl) (by kernel_rfl) (by kernel_rfl) (fun _ _ _ h => h) (Or.inl ⟨by rfl, ?_⟩) ?_
      rotate_left
      · intro w'; go_simp; try with_reducible rfl
      refine wpAny_take (i := 6) (v := ?_) rfl (by kernel_rfl) (by kernel_rfl) (by kernel_rfl) (fun _ _ _ h => h) (Or.inl ⟨by rfl, ?_⟩) ?_
      rotate_left
      · intro w'; go_simp; try with_reducible rfl
      refine wpAny_take (i := 7) (v := ?_) rfl (by kernel_rfl) (by kernel_rfl) (by kernel_rfl) (fun _ _ _ h => h) (Or.inl ⟨by rfl, ?_⟩) ?_
      rotate_left
      · intro w'; go_simp; try with_reducible rfl
      refine wpAny_take (i := 8) (v := ?_) rfl (by kernel_rfl) (by kernel_rfl) (by kernel_rfl) (fun _ _ _ h => h) (Or.inl ⟨by rfl, ?_⟩) ?_
      rotate_left
      · intro w'; go_simp; try with_reducible rfl
      refine wpAny_take (i := 9) (v := ?_) rfl (by kernel_rfl) (by kernel_rfl) (by kernel_rfl) (fun _ _ _ h => h) (Or.inl ⟨by rfl, ?_⟩) ?_
      rotate_left
      · intro w'; go_simp; try with_reducible rfl
      refine wpAny_take (i := 10) (v := ?_) rfl (by kernel_rfl) (by kernel_rfl) (by kernel_rfl) (fun _ _ _ h => h) (Or.inl ⟨by rfl, ?_⟩) ?_
      rotate_left
      · intro w'; go_simp; try with_reducible rfl
      refine wpAny_take (i := 11) (v := ?_) rfl (by kernel_rfl) (by kernel_rfl) (by kernel_rfl) (fun _ _ _ h => h) (Or.inl ⟨by rfl, ?_⟩) ?_
      rotate_left
      · intro w'; go_simp; try with_reducible rfl
      refine wpAny_take (i := 12) (v := ?_) rfl (by kernel_rfl) (by kernel_rfl) (by kernel_rfl) (fun _ _ _ h => h) (Or.inl ⟨by rfl, ?_⟩) ?_
      rotate_left
      · intro w'; go_simp; try with_reducible rfl
      refine wpAny_take (i := 13) (v := ?_) rfl (by kernel_rfl) (by kernel_rfl) (by kernel_rfl) (fun _ _ _ h => h) (Or.inl ⟨by rfl, ?_⟩) ?_
      rotate_left
      · intro w'; go_simp; try with_reducible rfl
      refine wpAny_take (i := 14) (v := ?_) rfl (by kernel_rfl) (by kernel_rfl) (by kernel_rfl) (fun _ _ _ h => h) (Or.inl ⟨by rfl, ?_⟩) ?_
      rotate_left
      · intro w'; go_simp; try with_reducible rfl
      refine wpAny_take (i := 15) (v := ?_) rfl (by kernel_rfl) (by kernel_rfl) (by kernel_rfl) (fun _ _ _ h => h) (Or.inl ⟨by rfl, ?_⟩) ?_
      rotate_left
      · intro w'; go_simp; try with_reducible rfl
      refine wpAny_take (i := 16) (v := ?_) rfl (by kernel_rfl) (by kernel_rfl) (by kernel_rfl) (fun _ _ _ h => h) (Or.inl ⟨by rfl, ?_⟩) ?_
      rotate_left
      · intro w'; go_simp; try with_reducible rfl
      refine wpAny_take (i := 17) (v := ?_) rfl (by kernel_rfl) (by kernel_rfl) (by kernel_rfl) (fun _ _ _ h => h) (Or.inl ⟨by rfl, ?_⟩) ?_
      rotate_left
      · intro w'; go_simp; try with_reducible rfl
      refine wpAny_take (i := 18) (v := ?_) rfl (by kernel_rfl) (by kernel_rfl) (by kernel_rfl) (fun _ _ _ h => h) (Or.inl ⟨by rfl, ?_⟩) ?_
      rotate_left
      · intro w'; go_simp; try with_reducible rfl
      refine wpAny_take (i := 19) (v := ?_) rfl (by kernel_rfl) (by kernel_rfl) (by kernel_rfl) (fun _ _ _ h => h) (Or.inl ⟨by rfl, ?_⟩) ?_
      rotate_left
      · intro w'; go_simp; try with_reducible rfl
      refine wpAny_take (i := 20) (v := ?_) rfl (by kernel_rfl) (by kernel_rfl) (by kernel_rfl) (fun _ _ _ h => h) (Or.inl ⟨by rfl, ?_⟩) ?_
      rotate_left
      · intro w'; go_simp; try with_reducible rfl
      refine wpAny_take (i := 21) (v := ?_) rfl (by kernel_rfl) (by kernel_rfl) (by kernel_rfl) (fun _ _ _ h => h) (Or.inl ⟨by rfl, ?_⟩) ?_
      rotate_left
      · intro w'; go_simp; try with_reducible rfl
      refine wpAny_take (i := 22) (v := ?_) rfl (by kernel_rfl) (by kernel_rfl) (by kernel_rfl) (fun _ _ _ h => h) (Or.inl ⟨by rfl, ?_⟩) ?_
      rotate_left
      · intro w'; go_simp; try with_reducible rfl
      refine wpAny_take (i := 23) (v := ?_) rfl (by kernel_rfl) (by kernel_rfl) (by kernel_rfl) (fun _ _ _ h => h) (Or.inl ⟨by rfl, ?_⟩) ?_
      rotate_left
      · intro w'; go_simp; try with_reducible rfl
      refine wpAny_take (i := 24) (v := ?_) rfl (by kernel_rfl) (by kernel_rfl) (by kernel_rfl) (fun _ _ _ h => h) (Or.inl ⟨by rfl, ?_⟩) ?_
      rotate_left
      · intro w'; go_simp; try with_reducible rfl
      refine wpAny_take (i := 25) (v := ?_) rfl (by kernel_rfl) (by kernel_rfl) (by kernel_rfl) (fun _ _ _ h => h) (Or.inl ⟨by rfl, ?_⟩) ?_
      rotate_left
      · intro w'; go_simp; try with_reducible rfl
      refine wpAny_take (i := 26) (v := ?_) rfl (by kernel_rfl) (by kernel_rfl) (by kernel_rfl) (fun _ _ _ h => h) (Or.inl ⟨by rfl, ?_⟩) ?_
      rotate_left
      · intro w'; go_simp; try with_reducible rfl
      refine wpAny_take (i := 27) (v := ?_) rfl (by kernel_rfl) (by kernel_rfl) (by kernel_rfl) (fun _ _ _ h => h) (Or.inl ⟨by rfl, ?_⟩) ?_
      rotate_left
      · intro w'; go_simp; try with_reducible rfl
      refine wpAny_take (i := 28) (v := ?_) rfl (by kernel_rfl) (by kernel_rfl) (by kernel_rfl) (fun _ _ _ h => h) (Or.inl ⟨by rfl, ?_⟩) ?_
      rotate_left
      · intro w'; go_simp; try with_reducible rfl
      refine wpAny_take (i := 29) (v := ?_) rfl (by kernel_rfl) (by kernel_rfl) (by kernel_rfl) (fun _ _ _ h => h) (Or.inl ⟨by rfl, ?_⟩) ?_
      rotate_left
      · intro w'; go_simp; try with_reducible rfl
      refine wpAny_ready (rs := [30]) (by kernel_rfl) (by simp) ?_
      refine AllReady.cons rfl (fun K hK => ?_) AllReady.nil
      go_simp
      refine hK _ _ ?_
      clear hK K
      refine wpAny_ready (rs := [31]) (by kernel_rfl) (by simp) ?_
      refine AllReady.cons rfl (fun K hK => ?_) AllReady.nil
      refine step_append_lies _ (by rfl) _ _ _ (by rfl) w.heap.size 3 i0 (.int .i64 0) 1 8 Tryz.underlying101 hi hz0 hz1 hz2 (by rfl) (by decide) u8 k pk (by rfl) (hown.alloc _).drew ⟨wr.heap.size, 0, none⟩ 1 1 [.int .i64 ((c0.toNat : Int) + 256 * (c1.toNat : Int) + 65536 * (c2.toNat : Int) + 16777216 * (c3.toNat : Int))] (by rfl) (by rfl) (World.news_of_block (fr := (0, 0)) (t := 3) (cs := #[.int .i64 ((c0.toNat : Int) + 256 * (c1.toNat : Int) + 65536 * (c2.toNat : Int) + 16777216 * (c3.toNat : Int))]) (heap_alloc_last wr _)) HC2.out (by decide) HC3.out HC4.out (by simp; omega) _ rfl ?_
      intro g cap w2 hown2 hgrow _ _
      try go_simp
      refine hK _ _ ?_
      clear hK K
      refine wpAny_take (i := 32) (v := ?_) rfl (by kernel_rfl) (by kernel_rfl) (by kernel_rfl) (fun _ _ _ h => h) (Or.inl ⟨by rfl, ?_⟩) ?_
      rotate_left
      · intro w'; go_simp; try with_reducible rfl
      refine wpAny_done (by kernel_rfl) ?_ _
      have ho2 : Old w w2 := Keep.old ((Keep.of_old (S := fun _ => False) (Below.drew (Below.alloc ho hsz _))).grown hgrow (fun g hg => Or.inl (row_from hown g hg))) (fun _ _ h => h)
      rw [← HP.out] at hown2
      have HO2 := Lib.hid hown2
      clear hown2
      go_wp2
      go_roundw
      case rel => exact ⟨k + 1, by omega, by go_num, HO2.out, ho2⟩
      case measure => simp [intOf]; omega
    · obtain rfl : k = 16 := by omega
      rw [List.take_of_length_le (by rw [M.len_nums]; exact Nat.le_refl _)] at hown
      obtain ⟨gm, cm, rfl, hgm, hrm⟩ := row_of_owns hown (by decide)
      have hgm2 := hrm.lt
      have hlm := M.len_nums s.data.toList
      have hsm := M.small_nums s.data.toList
      obtain ⟨m, hmeq⟩ : ∃ m, M.nums s.data.toList = m := ⟨_, rfl⟩
      rw [hmeq] at hrm hlm hsm
      have HM := Lib.hid hrm
      have HMEQ := Lib.hid hmeq
      clear hmeq
      have HLM := Lib.hid hlm
      have HSM := Lib.hid hsm
      have HHr := Lib.hid (HH.out.old ho)
      have hsz := ho.size
      have HO := Lib.hid ho
      clear hown hrm hlm hsm ho hk hlt
      have hnil : wr.ownsRow w.heap.size 3 1 (.slice none 0 0) 0 [] := World.ownsRow_nil _ _ _ _
      have HN1 := Lib.hid (HHr.out.news)
      have HN2 := Lib.hid (one64 h)
      have HN3 := Lib.hid (show (l64 h).length = 8 * 1 by rw [l64_len, HL.out])
      have hm08 : 0 + 8 ≤ maxLen := by decide
      have GC := Lib.hid (fun w1 => constants_any w1)
      go_upto_region 7 with (at_builtin; refine wpList_append_lies _ rfl _ _ 101 rfl w.heap.size 3 i0 (.int .i64 0) 1 8 Tryz.underlying101 hi hz0 hz1 hz2 rfl (by decide) _ 0 [] rfl hnil ⟨bh, 0, none⟩ 8 ch (l64 h) rfl HN3.out HN1.out HN2.out (by decide) hm08 (by decide) hsz _ rfl ?_; intro g1 cap1 w1 hown1 hgrow1 hat1 hlt1)
      obtain rfl : g1 = wr.heap.size := by rcases hat1 with h | h; (cases h); exact h
      have hs1 := hgrow1.size
      have ho1 : Old wr w1 := (Below.refl _ wr).grown hgrow1 (Nat.le_refl _) (fun g hg => by cases hg)
      have HOWN := Lib.hid hown1
      have HN5 := Lib.hid (one64 M.iv)
      have HN6 := Lib.hid (show (l64 M.iv).length = 8 * 1 from rfl)
      have hm16 : 0 + 8 + 8 ≤ maxLen := by decide
      clear hown1 hnil HN1 HN2 hat1
      go_upto_region 8 with (first
        | ((with_reducible refine (GC.out _).mono ?_); rintro e wc ⟨rfl, hrc, hoc, hsc⟩; have HOWN1 := Lib.hid (row_keep HOWN.out (Keep.of_old (S := fun _ => False) hoc) (fun _ _ h => h)); have HN4 := Lib.hid hrc.news; have HRC := Lib.hid hrc; have hbc : w.heap.size ≤ wc.heap.size := by omega)
        | (at_builtin; refine wpList_append_lies _ rfl _ _ 101 rfl w.heap.size 3 i0 (.int .i64 0) 1 8 Tryz.underlying101 hi hz0 hz1 hz2 rfl (by decide) _ (0 + 8) ([] ++ l64 h) rfl HOWN1.out ⟨w1.heap.size, 0, none⟩ 8 8 (l64 M.iv) rfl HN6.out HN4.out HN5.out (by decide) hm16 (by decide) hbc _ rfl ?_; intro g2 cap2 w2 hown2 hgrow2 hat2 hlt2))
      have hgr2 : wc.grownBy w2 (some wr.heap.size) := hgrow2
      have hg2 : wr.heap.size ≤ g2 := by
        rcases hat2 with h | h
        · have := Option.some.inj (show some wr.heap.size = some g2 from h)
          omega
        · have := hoc.size
          omega
      have hrv := row_of_slice hown2 (by decide)
      rw [List.nil_append, l64_append] at hrv
      have howc : Old w wc := HO.out.trans (ho1.trans hoc)
      have HM2 := Lib.hid (((HM.out.old ho1).old hoc).grown hgr2 (by intro h; have := Option.some.inj h; omega))
      have HH2 := Lib.hid (((HHr.out.old ho1).old hoc).grown hgr2 (by intro h; have := Option.some.inj h; omega))
      have HO2 := Lib.hid (Keep.old ((Keep.of_old (S := fun _ => False) howc).grown hgr2 (fun g hg => Or.inl (by have := Option.some.inj hg; omega))) (fun _ _ h => h))
      have HV0 := Lib.hid hrv
      have HL0 := Lib.hid (show (h ++ M.iv).length = 16 by rw [List.length_append, HL.out]; rfl)
      have HS0 : Hid (M.Small (h ++ M.iv)) := Lib.hid (fun x hx => by
        rcases List.mem_append.1 hx with hx | hx
        · exact HS.out x hx
        · exact M.small_iv x hx)
      have HST0 := Lib.hid (start_false h n)
      have HST1 := Lib.hid (start_true h n)
      have hg2lt := hrv.lt
      clear hgr2 hgrow2 hgrow1 hat2 hown2 hrv howc hoc ho1 hrc HOWN HOWN1 HN3 HN4 HN5 HN6 HRC GC HM HHr HO hm08 hm16 hbc hsc hs1 hlt1 hlt2
      generalize h ++ M.iv = v0 at *
      have c12 := HV0.out.cellN 12 (l64_at (by rw [HL0.out]; decide))
      have f12 := HV0.out.free 12
      have b12 : M.gt v0 12 < 4294967296 := M.gt_lt HS0.out 12
      have x12 := i64_xor_nat (M.gt v0 12) (n % 4294967296) (by omega) (by omega)
      rw [show ((n % 4294967296 : Nat) : Int) = (n : Int) % 4294967296 from by omega] at x12
      have t12 : (n : Int).tmod 4294967296 = (n : Int) % 4294967296 := Int.tmod_eq_emod_of_nonneg (by omega)
      go_upto_region 9 with (fail)
      have hst12 := HV0.out.l64_set (i := 12) (by rw [HL0.out]; decide) (M.gt v0 12 ^^^ n % 4294967296)
      obtain ⟨w7, e7⟩ : ∃ w7, (w2.setCell ⟨g2, 12, none⟩ (.int .i64 ((M.gt v0 12 ^^^ n % 4294967296 : Nat) : Int))) = w7 := ⟨_, rfl⟩
      have k7 : Keep (· = g2) w2 w7 := by rw [← e7]; exact (Keep.refl _ w2).set1 12 _
      rw [e7] at hst12 ⊢
      have H7 := Lib.hid (show Row w7 g2 (l64 (s1 v0 n)) 3 from hst12)
      have HK7 := Lib.hid k7
      have HV1 := Lib.hid (show (s1 v0 n).length = 16 by rw [s1, List.length_set, HL0.out])
      have HS1 := Lib.hid (small_s1 HS0.out n)
      clear e7 hst12 k7 HV0 HL0 HS0 c12 f12 x12 b12 t12
      obtain ⟨v1, ev1⟩ : ∃ v1, s1 v0 n = v1 := ⟨_, rfl⟩
      rw [ev1] at H7 HV1 HS1 HST0 HST1
      clear ev1
      have c13 := H7.out.cellN 13 (l64_at (by rw [HV1.out]; decide))
      have f13 := H7.out.free 13
      have b13 : M.gt v1 13 < 4294967296 := M.gt_lt HS1.out 13
      have x13 := i64_xor_nat (M.gt v1 13) (n / 4294967296 % 4294967296) (by omega) (by omega)
      rw [show ((n / 4294967296 % 4294967296 : Nat) : Int) = (n : Int) / 4294967296 from by omega] at x13
      have t13 : (n : Int).tdiv 4294967296 = (n : Int) / 4294967296 := Int.tdiv_eq_ediv_of_nonneg (by omega)
      have t14 : ((n : Int) / 4294967296).tmod 4294967296 = (n : Int) / 4294967296 := by
        rw [Int.tmod_eq_emod_of_nonneg (by omega)]; omega
      go_upto_region 10 with (fail)
      have hst13 := H7.out.l64_set (i := 13) (by rw [HV1.out]; decide) (M.gt v1 13 ^^^ n / 4294967296 % 4294967296)
      obtain ⟨w8, e8⟩ : ∃ w8, (w7.setCell ⟨g2, 13, none⟩ (.int .i64 ((M.gt v1 13 ^^^ n / 4294967296 % 4294967296 : Nat) : Int))) = w8 := ⟨_, rfl⟩
      have k8 : Keep (· = g2) w2 w8 := by rw [← e8]; exact HK7.out.set1 13 _
      rw [e8] at hst13 ⊢
      have H8 := Lib.hid (show Row w8 g2 (l64 (s2 v1 n)) 3 from hst13)
      have HK8 := Lib.hid k8
      have HV2 := Lib.hid (show (s2 v1 n).length = 16 by rw [s2, List.length_set, HV1.out])
      have HS2 := Lib.hid (small_s2 HS1.out n)
      clear e8 hst13 k8 H7 HK7 HV1 HS1 c13 f13 x13 b13 t13 t14
      obtain ⟨v2, ev2⟩ : ∃ v2, s2 v1 n = v2 := ⟨_, rfl⟩
      rw [ev2] at H8 HV2 HS2 HST0 HST1
      clear ev2
      have c14 := H8.out.cellN 14 (l64_at (by rw [HV2.out]; decide))
      have f14 := H8.out.free 14
      have b14 : M.gt v2 14 < 4294967296 := M.gt_lt HS2.out 14
      have x14 := i64_xor_nat (M.gt v2 14) 4294967295 (by omega) (by omega)
      rw [show ((4294967295 : Nat) : Int) = (4294967295 : Int) from rfl] at x14
      have hst14 := Lib.hid (H8.out.l64_set (i := 14) (by rw [HV2.out]; decide) (M.gt v2 14 ^^^ 4294967295))
      go_upto_if 74 with (fail)
      go_cut [] (fun wx => Row wx g2 (l64 (M.start h n last)) 3 ∧ Keep (· = g2) w2 wx)
      case first =>
        cases last
        · go_wp2
          go_meet
          case rel => exact ⟨by rw [HST0.out]; exact H8.out, HK8.out⟩
        · go_wp2
          go_meet
          case rel => exact ⟨by rw [HST1.out]; exact hst14.out, HK8.out.set1 14 _⟩
      case rest =>
        obtain ⟨h9, k9⟩ := hcut
        have l9 : (M.start h n last).length = 16 := by rw [M.len_start, HL.out]
        have s9 : M.Small (M.start h n last) := M.small_start HS.out n last
        have p9 : M.press h m n last = M.fold h (M.rounds (M.start h n last) m M.orders) := rfl
        generalize M.start h n last = v3 at *
        generalize wc = w9 at *
        clear c14 f14 x14 b14 hst14 H8 HK8 HV2 HS2 HST0 HST1
        have H9 := Lib.hid h9
        have HV3 := Lib.hid l9
        have HS3 := Lib.hid s9
        have HP := Lib.hid p9
        have HM9 := Lib.hid (HM2.out.keep k9 (by omega))
        have HH9 := Lib.hid (HH2.out.keep k9 (by omega))
        have HO9 := Lib.hid (Below.trans HO2.out (k9.below HO2.out.size (fun q hq => by omega)))
        have hsz9 := k9.size
        clear h9 k9 l9 s9 p9 HM2 HH2 HO2
        have GR := Lib.hid (rows_any w9)
        go_wp2_with ((with_reducible refine GR.out.mono ?_); rintro e wx ⟨gr, rfl, hgr, hrows, hox⟩)
        have HROWS := Lib.hid hrows
        have HVX := Lib.hid (H9.out.old hox)
        have HMX := Lib.hid (HM9.out.old hox)
        have HHX := Lib.hid (HH9.out.old hox)
        have HOX := Lib.hid (Old.trans HO9.out hox)
        have hszx := hox.size
        clear hrows hox GR H9 HM9 HH9 HO9
        go_loopw [12] (fun i wr => ∃ k : Nat, k ≤ 10 ∧ i = .int .i64 k ∧ Row wr g2 (l64 (M.rounds v3 m (M.orders.take k))) 3 ∧ Keep (· = g2) wx wr) (fun i _ => 10 - (intOf i).toNat)
        case atStart => exact ⟨0, by decide, rfl, HVX.out, Keep.refl _ _⟩
        case round =>
          obtain ⟨k, hk, rfl, hb, kk⟩ := hrel
          have HB := Lib.hid hb
          have KK := Lib.hid kk
          clear hb kk
          by_cases hlt : k < 10
          · have hkk := HROWS.out.keep KK.out (by omega) (fun q hq => by omega)
            obtain ⟨gk, hgk, hcr, hrk⟩ := hkk k hlt
            unfold sl16 at hcr
            have HRS := Lib.hid (rounds_step v3 m k hlt)
            have HVR := Lib.hid ((M.len_rounds (m := m) (M.orders.take k) v3).trans HV3.out)
            have HSR := Lib.hid (M.small_rounds (m := m) (M.orders.take k) HS3.out)
            have HOL := Lib.hid (orders_len k hlt)
            have HOG := Lib.hid (orders_gt k hlt)
            generalize M.rounds v3 m (M.orders.take k) = vk at *
            generalize M.orders.getD k [] = os at *
            have HRK := Lib.hid hrk
            have HMK := Lib.hid (HMX.out.keep KK.out (by omega))
            have hgk2 : gk ≠ g2 := by omega
            have hgm3 : gm ≠ g2 := by omega
            clear hkk hrk hgk
            have p1 : (k : Int) < 10 := by omega
            have p2 : (0 : Int) ≤ (k : Int) := by omega
            go_upto_region 17 with (fail)
            clear hcr p1 p2
            have c1 := HRK.out.cellN 0 (l64_at (by rw [HOL.out]; decide))
            have c2 := HRK.out.cellN 1 (l64_at (by rw [HOL.out]; decide))
            have l1 : ((M.gt os 0 : Nat) : Int) < 16 := by have := HOG.out 0; omega
            have l2 : ((M.gt os 1 : Nat) : Int) < 16 := by have := HOG.out 1; omega
            have p1 : (0 : Int) ≤ ((M.gt os 0 : Nat) : Int) := by omega
            have p2 : (0 : Int) ≤ ((M.gt os 1 : Nat) : Int) := by omega
            have c3 := HMK.out.cellN (M.gt os 0) (l64_at (by rw [HLM.out]; exact HOG.out _))
            have c4 := HMK.out.cellN (M.gt os 1) (l64_at (by rw [HLM.out]; exact HOG.out _))
            go_wp2
            go_still_tail 13, (by kernel_rfl)
            change wpList _ _ _ _ _ wr.drew
            have G := Lib.hid (rmix_at g2 cap2 vk HVR.out HSR.out 0 4 8 12 (M.gt m (M.gt os 0)) (M.gt m (M.gt os 1)) 0 4 8 12 (by decide) (M.gt_lt HSM.out _) (M.gt_lt HSM.out _) wr.drew HB.out)
            go_wp2_with ((with_reducible refine G.out.mono ?_); rintro e z1 ⟨rfl, h1, k1⟩)
            have HSR1 := Lib.hid (M.small_mix HSR.out _ _ _ _ _ _ : M.Small (M.mix vk 0 4 8 12 (M.gt m (M.gt os 0)) (M.gt m (M.gt os 1))))
            have HVR1 := Lib.hid ((M.len_mix .. : (M.mix vk 0 4 8 12 (M.gt m (M.gt os 0)) (M.gt m (M.gt os 1))).length = _).trans HVR.out)
            have HB1 := Lib.hid h1
            have HMK1 := Lib.hid ((show Row wr.drew gm (l64 m) _ from HMK.out).keep k1 (show ¬ (fun k => k = g2) gm from hgm3))
            have HRK1 := Lib.hid ((show Row wr.drew gk (l64 os) _ from HRK.out).keep k1 (show ¬ (fun k => k = g2) gk from hgk2))
            have KK1 := Lib.hid ((KK.out.drew.trans k1 : Keep (· = g2) wx z1))
            clear h1 k1 c1 c2 c3 c4 l1 l2 p1 p2 G HSR HVR HB HMK HRK KK
            have HSR := HSR1; have HVR := HVR1; have HB := HB1; have HMK := HMK1; have HRK := HRK1; have KK := KK1
            clear HSR1 HVR1 HB1 HMK1 HRK1 KK1
            obtain ⟨y1, he⟩ : ∃ z : List Nat, M.mix vk 0 4 8 12 (M.gt m (M.gt os 0)) (M.gt m (M.gt os 1)) = z := ⟨_, rfl⟩
            rw [he] at HSR HVR HB
            have HE1 := Lib.hid he
            clear he
            have c1 := HRK.out.cellN 2 (l64_at (by rw [HOL.out]; decide))
            have c2 := HRK.out.cellN 3 (l64_at (by rw [HOL.out]; decide))
            have l1 : ((M.gt os 2 : Nat) : Int) < 16 := by have := HOG.out 2; omega
            have l2 : ((M.gt os 3 : Nat) : Int) < 16 := by have := HOG.out 3; omega
            have p1 : (0 : Int) ≤ ((M.gt os 2 : Nat) : Int) := by omega
            have p2 : (0 : Int) ≤ ((M.gt os 3 : Nat) : Int) := by omega
            have c3 := HMK.out.cellN (M.gt os 2) (l64_at (by rw [HLM.out]; exact HOG.out _))
            have c4 := HMK.out.cellN (M.gt os 3) (l64_at (by rw [HLM.out]; exact HOG.out _))
            go_wp2
            go_still_tail 13, (by kernel_rfl)
            change wpList _ _ _ _ _ z1.drew
            have G := Lib.hid (rmix_at g2 cap2 y1 HVR.out HSR.out 1 5 9 13 (M.gt m (M.gt os 2)) (M.gt m (M.gt os 3)) 1 5 9 13 (by decide) (M.gt_lt HSM.out _) (M.gt_lt HSM.out _) z1.drew HB.out)
            go_wp2_with ((with_reducible refine G.out.mono ?_); rintro e z2 ⟨rfl, h1, k1⟩)
            have HSR1 := Lib.hid (M.small_mix HSR.out _ _ _ _ _ _ : M.Small (M.mix y1 1 5 9 13 (M.gt m (M.gt os 2)) (M.gt m (M.gt os 3))))
            have HVR1 := Lib.hid ((M.len_mix .. : (M.mix y1 1 5 9 13 (M.gt m (M.gt os 2)) (M.gt m (M.gt os 3))).length = _).trans HVR.out)
            have HB1 := Lib.hid h1
            have HMK1 := Lib.hid ((show Row z1.drew gm (l64 m) _ from HMK.out).keep k1 (show ¬ (fun k => k = g2) gm from hgm3))
            have HRK1 := Lib.hid ((show Row z1.drew gk (l64 os) _ from HRK.out).keep k1 (show ¬ (fun k => k = g2) gk from hgk2))
            have KK1 := Lib.hid ((KK.out.drew.trans k1 : Keep (· = g2) wx z2))
            clear h1 k1 c1 c2 c3 c4 l1 l2 p1 p2 G HSR HVR HB HMK HRK KK
            have HSR := HSR1; have HVR := HVR1; have HB := HB1; have HMK := HMK1; have HRK := HRK1; have KK := KK1
            clear HSR1 HVR1 HB1 HMK1 HRK1 KK1
            obtain ⟨y2, he⟩ : ∃ z : List Nat, M.mix y1 1 5 9 13 (M.gt m (M.gt os 2)) (M.gt m (M.gt os 3)) = z := ⟨_, rfl⟩
            rw [he] at HSR HVR HB
            have HE2 := Lib.hid he
            clear he
            have c1 := HRK.out.cellN 4 (l64_at (by rw [HOL.out]; decide))
            have c2 := HRK.out.cellN 5 (l64_at (by rw [HOL.out]; decide))
            have l1 : ((M.gt os 4 : Nat) : Int) < 16 := by have := HOG.out 4; omega
            have l2 : ((M.gt os 5 : Nat) : Int) < 16 := by have := HOG.out 5; omega
            have p1 : (0 : Int) ≤ ((M.gt os 4 : Nat) : Int) := by omega
            have p2 : (0 : Int) ≤ ((M.gt os 5 : Nat) : Int) := by omega
            have c3 := HMK.out.cellN (M.gt os 4) (l64_at (by rw [HLM.out]; exact HOG.out _))
            have c4 := HMK.out.cellN (M.gt os 5) (l64_at (by rw [HLM.out]; exact HOG.out _))
            go_wp2
            go_still_tail 13, (by kernel_rfl)
            change wpList _ _ _ _ _ z2.drew
            have G := Lib.hid (rmix_at g2 cap2 y2 HVR.out HSR.out 2 6 10 14 (M.gt m (M.gt os 4)) (M.gt m (M.gt os 5)) 2 6 10 14 (by decide) (M.gt_lt HSM.out _) (M.gt_lt HSM.out _) z2.drew HB.out)
            go_wp2_with ((with_reducible refine G.out.mono ?_); rintro e z3 ⟨rfl, h1, k1⟩)
            have HSR1 := Lib.hid (M.small_mix HSR.out _ _ _ _ _ _ : M.Small (M.mix y2 2 6 10 14 (M.gt m (M.gt os 4)) (M.gt m (M.gt os 5))))
            have HVR1 := Lib.hid ((M.len_mix .. : (M.mix y2 2 6 10 14 (M.gt m (M.gt os 4)) (M.gt m (M.gt os 5))).length = _).trans HVR.out)
            have HB1 := Lib.hid h1
            have HMK1 := Lib.hid ((show Row z2.drew gm (l64 m) _ from HMK.out).keep k1 (show ¬ (fun k => k = g2) gm from hgm3))
            have HRK1 := Lib.hid ((show Row z2.drew gk (l64 os) _ from HRK.out).keep k1 (show ¬ (fun k => k = g2) gk from hgk2))
            have KK1 := Lib.hid ((KK.out.drew.trans k1 : Keep (· = g2) wx z3))
            clear h1 k1 c1 c2 c3 c4 l1 l2 p1 p2 G HSR HVR HB HMK HRK KK
            have HSR := HSR1; have HVR := HVR1; have HB := HB1; have HMK := HMK1; have HRK := HRK1; have KK := KK1
            clear HSR1 HVR1 HB1 HMK1 HRK1 KK1
            obtain ⟨y3, he⟩ : ∃ z : List Nat, M.mix y2 2 6 10 14 (M.gt m (M.gt os 4)) (M.gt m (M.gt os 5)) = z := ⟨_, rfl⟩
            rw [he] at HSR HVR HB
            have HE3 := Lib.hid he
            clear he
            have c1 := HRK.out.cellN 6 (l64_at (by rw [HOL.out]; decide))
            have c2 := HRK.out.cellN 7 (l64_at (by rw [HOL.out]; decide))
            have l1 : ((M.gt os 6 : Nat) : Int) < 16 := by have := HOG.out 6; omega
            have l2 : ((M.gt os 7 : Nat) : Int) < 16 := by have := HOG.out 7; omega
            have p1 : (0 : Int) ≤ ((M.gt os 6 : Nat) : Int) := by omega
            have p2 : (0 : Int) ≤ ((M.gt os 7 : Nat) : Int) := by omega
            have c3 := HMK.out.cellN (M.gt os 6) (l64_at (by rw [HLM.out]; exact HOG.out _))
            have c4 := HMK.out.cellN (M.gt os 7) (l64_at (by rw [HLM.out]; exact HOG.out _))
            go_wp2
            go_still_tail 13, (by kernel_rfl)
            change wpList _ _ _ _ _ z3.drew
            have G := Lib.hid (rmix_at g2 cap2 y3 HVR.out HSR.out 3 7 11 15 (M.gt m (M.gt os 6)) (M.gt m (M.gt os 7)) 3 7 11 15 (by decide) (M.gt_lt HSM.out _) (M.gt_lt HSM.out _) z3.drew HB.out)
            go_wp2_with ((with_reducible refine G.out.mono ?_); rintro e z4 ⟨rfl, h1, k1⟩)
            have HSR1 := Lib.hid (M.small_mix HSR.out _ _ _ _ _ _ : M.Small (M.mix y3 3 7 11 15 (M.gt m (M.gt os 6)) (M.gt m (M.gt os 7))))
            have HVR1 := Lib.hid ((M.len_mix .. : (M.mix y3 3 7 11 15 (M.gt m (M.gt os 6)) (M.gt m (M.gt os 7))).length = _).trans HVR.out)
            have HB1 := Lib.hid h1
            have HMK1 := Lib.hid ((show Row z3.drew gm (l64 m) _ from HMK.out).keep k1 (show ¬ (fun k => k = g2) gm from hgm3))
            have HRK1 := Lib.hid ((show Row z3.drew gk (l64 os) _ from HRK.out).keep k1 (show ¬ (fun k => k = g2) gk from hgk2))
            have KK1 := Lib.hid ((KK.out.drew.trans k1 : Keep (· = g2) wx z4))
            clear h1 k1 c1 c2 c3 c4 l1 l2 p1 p2 G HSR HVR HB HMK HRK KK
            have HSR := HSR1; have HVR := HVR1; have HB := HB1; have HMK := HMK1; have HRK := HRK1; have KK := KK1
            clear HSR1 HVR1 HB1 HMK1 HRK1 KK1
            obtain ⟨y4, he⟩ : ∃ z : List Nat, M.mix y3 3 7 11 15 (M.gt m (M.gt os 6)) (M.gt m (M.gt os 7)) = z := ⟨_, rfl⟩
            rw [he] at HSR HVR HB
            have HE4 := Lib.hid he
            clear he
            have c1 := HRK.out.cellN 8 (l64_at (by rw [HOL.out]; decide))
            have c2 := HRK.out.cellN 9 (l64_at (by rw [HOL.out]; decide))
            have l1 : ((M.gt os 8 : Nat) : Int) < 16 := by have := HOG.out 8; omega
            have l2 : ((M.gt os 9 : Nat) : Int) < 16 := by have := HOG.out 9; omega
            have p1 : (0 : Int) ≤ ((M.gt os 8 : Nat) : Int) := by omega
            have p2 : (0 : Int) ≤ ((M.gt os 9 : Nat) : Int) := by omega
            have c3 := HMK.out.cellN (M.gt os 8) (l64_at (by rw [HLM.out]; exact HOG.out _))
            have c4 := HMK.out.cellN (M.gt os 9) (l64_at (by rw [HLM.out]; exact HOG.out _))
            go_wp2
            go_still_tail 13, (by kernel_rfl)
            change wpList _ _ _ _ _ z4.drew
            have G := Lib.hid (rmix_at g2 cap2 y4 HVR.out HSR.out 0 5 10 15 (M.gt m (M.gt os 8)) (M.gt m (M.gt os 9)) 0 5 10 15 (by decide) (M.gt_lt HSM.out _) (M.gt_lt HSM.out _) z4.drew HB.out)
            go_wp2_with ((with_reducible refine G.out.mono ?_); rintro e z5 ⟨rfl, h1, k1⟩)
            have HSR1 := Lib.hid (M.small_mix HSR.out _ _ _ _ _ _ : M.Small (M.mix y4 0 5 10 15 (M.gt m (M.gt os 8)) (M.gt m (M.gt os 9))))
            have HVR1 := Lib.hid ((M.len_mix .. : (M.mix y4 0 5 10 15 (M.gt m (M.gt os 8)) (M.gt m (M.gt os 9))).length = _).trans HVR.out)
            have HB1 := Lib.hid h1
            have HMK1 := Lib.hid ((show Row z4.drew gm (l64 m) _ from HMK.out).keep k1 (show ¬ (fun k => k = g2) gm from hgm3))
            have HRK1 := Lib.hid ((show Row z4.drew gk (l64 os) _ from HRK.out).keep k1 (show ¬ (fun k => k = g2) gk from hgk2))
            have KK1 := Lib.hid ((KK.out.drew.trans k1 : Keep (· = g2) wx z5))
            clear h1 k1 c1 c2 c3 c4 l1 l2 p1 p2 G HSR HVR HB HMK HRK KK
            have HSR := HSR1; have HVR := HVR1; have HB := HB1; have HMK := HMK1; have HRK := HRK1; have KK := KK1
            clear HSR1 HVR1 HB1 HMK1 HRK1 KK1
            obtain ⟨y5, he⟩ : ∃ z : List Nat, M.mix y4 0 5 10 15 (M.gt m (M.gt os 8)) (M.gt m (M.gt os 9)) = z := ⟨_, rfl⟩
            rw [he] at HSR HVR HB
            have HE5 := Lib.hid he
            clear he
            have c1 := HRK.out.cellN 10 (l64_at (by rw [HOL.out]; decide))
            have c2 := HRK.out.cellN 11 (l64_at (by rw [HOL.out]; decide))
            have l1 : ((M.gt os 10 : Nat) : Int) < 16 := by have := HOG.out 10; omega
            have l2 : ((M.gt os 11 : Nat) : Int) < 16 := by have := HOG.out 11; omega
            have p1 : (0 : Int) ≤ ((M.gt os 10 : Nat) : Int) := by omega
            have p2 : (0 : Int) ≤ ((M.gt os 11 : Nat) : Int) := by omega
            have c3 := HMK.out.cellN (M.gt os 10) (l64_at (by rw [HLM.out]; exact HOG.out _))
            have c4 := HMK.out.cellN (M.gt os 11) (l64_at (by rw [HLM.out]; exact HOG.out _))
            go_wp2
            go_still_tail 13, (by kernel_rfl)
            change wpList _ _ _ _ _ z5.drew
            have G := Lib.hid (rmix_at g2 cap2 y5 HVR.out HSR.out 1 6 11 12 (M.gt m (M.gt os 10)) (M.gt m (M.gt os 11)) 1 6 11 12 (by decide) (M.gt_lt HSM.out _) (M.gt_lt HSM.out _) z5.drew HB.out)
            go_wp2_with ((with_reducible refine G.out.mono ?_); rintro e z6 ⟨rfl, h1, k1⟩)
            have HSR1 := Lib.hid (M.small_mix HSR.out _ _ _ _ _ _ : M.Small (M.mix y5 1 6 11 12 (M.gt m (M.gt os 10)) (M.gt m (M.gt os 11))))
            have HVR1 := Lib.hid ((M.len_mix .. : (M.mix y5 1 6 11 12 (M.gt m (M.gt os 10)) (M.gt m (M.gt os 11))).length = _).trans HVR.out)
            have HB1 := Lib.hid h1
            have HMK1 := Lib.hid ((show Row z5.drew gm (l64 m) _ from HMK.out).keep k1 (show ¬ (fun k => k = g2) gm from hgm3))
            have HRK1 := Lib.hid ((show Row z5.drew gk (l64 os) _ from HRK.out).keep k1 (show ¬ (fun k => k = g2) gk from hgk2))
            have KK1 := Lib.hid ((KK.out.drew.trans k1 : Keep (· = g2) wx z6))
            clear h1 k1 c1 c2 c3 c4 l1 l2 p1 p2 G HSR HVR HB HMK HRK KK
            have HSR := HSR1; have HVR := HVR1; have HB := HB1; have HMK := HMK1; have HRK := HRK1; have KK := KK1
            clear HSR1 HVR1 HB1 HMK1 HRK1 KK1
            obtain ⟨y6, he⟩ : ∃ z : List Nat, M.mix y5 1 6 11 12 (M.gt m (M.gt os 10)) (M.gt m (M.gt os 11)) = z := ⟨_, rfl⟩
            rw [he] at HSR HVR HB
            have HE6 := Lib.hid he
            clear he
            have c1 := HRK.out.cellN 12 (l64_at (by rw [HOL.out]; decide))
            have c2 := HRK.out.cellN 13 (l64_at (by rw [HOL.out]; decide))
            have l1 : ((M.gt os 12 : Nat) : Int) < 16 := by have := HOG.out 12; omega
            have l2 : ((M.gt os 13 : Nat) : Int) < 16 := by have := HOG.out 13; omega
            have p1 : (0 : Int) ≤ ((M.gt os 12 : Nat) : Int) := by omega
            have p2 : (0 : Int) ≤ ((M.gt os 13 : Nat) : Int) := by omega
            have c3 := HMK.out.cellN (M.gt os 12) (l64_at (by rw [HLM.out]; exact HOG.out _))
            have c4 := HMK.out.cellN (M.gt os 13) (l64_at (by rw [HLM.out]; exact HOG.out _))
            go_wp2
            go_still_tail 13, (by kernel_rfl)
            change wpList _ _ _ _ _ z6.drew
            have G := Lib.hid (rmix_at g2 cap2 y6 HVR.out HSR.out 2 7 8 13 (M.gt m (M.gt os 12)) (M.gt m (M.gt os 13)) 2 7 8 13 (by decide) (M.gt_lt HSM.out _) (M.gt_lt HSM.out _) z6.drew HB.out)
            go_wp2_with ((with_reducible refine G.out.mono ?_); rintro e z7 ⟨rfl, h1, k1⟩)
            have HSR1 := Lib.hid (M.small_mix HSR.out _ _ _ _ _ _ : M.Small (M.mix y6 2 7 8 13 (M.gt m (M.gt os 12)) (M.gt m (M.gt os 13))))
            have HVR1 := Lib.hid ((M.len_mix .. : (M.mix y6 2 7 8 13 (M.gt m (M.gt os 12)) (M.gt m (M.gt os 13))).length = _).trans HVR.out)
            have HB1 := Lib.hid h1
            have HMK1 := Lib.hid ((show Row z6.drew gm (l64 m) _ from HMK.out).keep k1 (show ¬ (fun k => k = g2) gm from hgm3))
            have HRK1 := Lib.hid ((show Row z6.drew gk (l64 os) _ from HRK.out).keep k1 (show ¬ (fun k => k = g2) gk from hgk2))
            have KK1 := Lib.hid ((KK.out.drew.trans k1 : Keep (· = g2) wx z7))
            clear h1 k1 c1 c2 c3 c4 l1 l2 p1 p2 G HSR HVR HB HMK HRK KK
            have HSR := HSR1; have HVR := HVR1; have HB := HB1; have HMK := HMK1; have HRK := HRK1; have KK := KK1
            clear HSR1 HVR1 HB1 HMK1 HRK1 KK1
            obtain ⟨y7, he⟩ : ∃ z : List Nat, M.mix y6 2 7 8 13 (M.gt m (M.gt os 12)) (M.gt m (M.gt os 13)) = z := ⟨_, rfl⟩
            rw [he] at HSR HVR HB
            have HE7 := Lib.hid he
            clear he
            have c1 := HRK.out.cellN 14 (l64_at (by rw [HOL.out]; decide))
            have c2 := HRK.out.cellN 15 (l64_at (by rw [HOL.out]; decide))
            have l1 : ((M.gt os 14 : Nat) : Int) < 16 := by have := HOG.out 14; omega
            have l2 : ((M.gt os 15 : Nat) : Int) < 16 := by have := HOG.out 15; omega
            have p1 : (0 : Int) ≤ ((M.gt os 14 : Nat) : Int) := by omega
            have p2 : (0 : Int) ≤ ((M.gt os 15 : Nat) : Int) := by omega
            have c3 := HMK.out.cellN (M.gt os 14) (l64_at (by rw [HLM.out]; exact HOG.out _))
            have c4 := HMK.out.cellN (M.gt os 15) (l64_at (by rw [HLM.out]; exact HOG.out _))
            go_wp2
            go_still_tail 13, (by kernel_rfl)
            change wpList _ _ _ _ _ z7.drew
            have G := Lib.hid (rmix_at g2 cap2 y7 HVR.out HSR.out 3 4 9 14 (M.gt m (M.gt os 14)) (M.gt m (M.gt os 15)) 3 4 9 14 (by decide) (M.gt_lt HSM.out _) (M.gt_lt HSM.out _) z7.drew HB.out)
            go_wp2_with ((with_reducible refine G.out.mono ?_); rintro e z8 ⟨rfl, h1, k1⟩)
            have HSR1 := Lib.hid (M.small_mix HSR.out _ _ _ _ _ _ : M.Small (M.mix y7 3 4 9 14 (M.gt m (M.gt os 14)) (M.gt m (M.gt os 15))))
            have HVR1 := Lib.hid ((M.len_mix .. : (M.mix y7 3 4 9 14 (M.gt m (M.gt os 14)) (M.gt m (M.gt os 15))).length = _).trans HVR.out)
            have HB1 := Lib.hid h1
            have HMK1 := Lib.hid ((show Row z7.drew gm (l64 m) _ from HMK.out).keep k1 (show ¬ (fun k => k = g2) gm from hgm3))
            have HRK1 := Lib.hid ((show Row z7.drew gk (l64 os) _ from HRK.out).keep k1 (show ¬ (fun k => k = g2) gk from hgk2))
            have KK1 := Lib.hid ((KK.out.drew.trans k1 : Keep (· = g2) wx z8))
            clear h1 k1 c1 c2 c3 c4 l1 l2 p1 p2 G HSR HVR HB HMK HRK KK
            have HSR := HSR1; have HVR := HVR1; have HB := HB1; have HMK := HMK1; have HRK := HRK1; have KK := KK1
            clear HSR1 HVR1 HB1 HMK1 HRK1 KK1
            obtain ⟨y8, he⟩ : ∃ z : List Nat, M.mix y7 3 4 9 14 (M.gt m (M.gt os 14)) (M.gt m (M.gt os 15)) = z := ⟨_, rfl⟩
            rw [he] at HSR HVR HB
            have HE8 := Lib.hid he
            clear he
            have hr : M.round vk m os = y8 := by
              unfold M.round
              simp only [HE1.out, HE2.out, HE3.out, HE4.out, HE5.out, HE6.out, HE7.out, HE8.out]
            have HR8 := Lib.hid (show Row z8 g2 (l64 (M.rounds v3 m (M.orders.take (k + 1)))) 3 from by rw [HRS.out, hr]; exact HB.out)
            clear hr HE1 HE2 HE3 HE4 HE5 HE6 HE7 HE8
            go_wp2
            go_roundw
            case rel => exact ⟨k + 1, by omega, by go_num, HR8.out, KK.out⟩
            case measure => simp [intOf]; omega
          · obtain rfl : k = 10 := by omega
            have hb : Row wr g2 (l64 (M.rounds v3 m M.orders)) 3 := HB.out
            have HVR := Lib.hid ((M.len_rounds (m := m) M.orders v3).trans HV3.out)
            have HSR := Lib.hid (M.small_rounds (m := m) M.orders HS3.out)
            have hhr : Row wr bh (l64 (foldTo h (M.rounds v3 m M.orders) 0)) 3 := by
              rw [foldTo_zero _ _ HL.out]; exact HHX.out.keep KK.out (by omega)
            have hor : Old w wr := Below.trans HOX.out (KK.out.below HOX.out.size (fun q hq => by omega))
            generalize M.rounds v3 m M.orders = vf at *
            have HHB := Lib.hid hb
            have HHR := Lib.hid hhr
            have HOR := Lib.hid hor
            clear hb hhr hor hk HB KK HROWS HVX HMX HHX HOX
            go_wp2
            go_loopw [14] (fun i wx => ∃ k : Nat, k ≤ 8 ∧ i = .int .i64 k ∧ Row wx bh (l64 (foldTo h vf k)) 3 ∧ Keep (· = bh) wr wx) (fun i _ => 8 - (intOf i).toNat)
            case atStart => exact ⟨0, by decide, rfl, HHR.out, Keep.refl _ _⟩
            case round =>
              obtain ⟨k, hk, rfl, hb, kk⟩ := hrel
              have HB := Lib.hid hb
              have KK := Lib.hid kk
              clear hb kk
              by_cases hlt : k < 8
              · have cv := HHB.out.keep KK.out (by omega)
                have c1 := cv.cellN k (l64_at (by rw [HVR.out]; omega))
                have c2 := cv.cellN (k + 8) (l64_at (by rw [HVR.out]; omega))
                have c3 := HB.out.cellN k (l64_at (by rw [len_foldTo]; exact hlt))
                have e3 : M.gt (foldTo h vf k) k = M.gt h k := by rw [foldTo_at _ _ _ _ hlt, if_neg (Nat.lt_irrefl _)]
                rw [e3] at c3
                have f3 := HB.out.free k
                have d1 : M.gt vf k < 4294967296 := M.gt_lt HSR.out k
                have d2 : M.gt vf (k + 8) < 4294967296 := M.gt_lt HSR.out (k + 8)
                have d3 : M.gt h k < 4294967296 := M.gt_lt HS.out k
                have d4 : M.gt h k ^^^ M.gt vf k < 4294967296 := M.xor_lt d3 d1
                have x1 := i64_xor_nat (M.gt h k) (M.gt vf k) (by omega) (by omega)
                have x2 := i64_xor_nat (M.gt h k ^^^ M.gt vf k) (M.gt vf (k + 8)) (by omega) (by omega)
                rw [Nat.xor_assoc] at x2
                have i1 : (k : Int) < 8 := by omega
                have i2 : (0 : Int) ≤ (k : Int) := by omega
                have i3 : (k : Int) < 16 := by omega
                have i4 : (k : Int) + 8 < 16 := by omega
                have i5 : (0 : Int) ≤ (k : Int) + 8 := by omega
                have i6 : IntKind.i64.wrap ((k : Int) + 8) = (k : Int) + 8 := IntWalk.i64_in _ (by omega)
                have i7 : ((k : Int) + 8).toNat = k + 8 := by omega
                clear cv e3 d1 d2 d3 d4
                go_wp2
                go_still_tail 18, (by kernel_rfl)
                change wpList _ _ _ _ _ wr.drew
                go_wp2
                refine ⟨?_, ?measure⟩
                refine ⟨_, _, _, _, _, _, _, _, _, _, _, _, _, _, _, _, _, _, _, _, _, _, _, ?rel, rfl⟩
                case rel =>
                  refine ⟨k + 1, by omega, by go_num, ?_, (KK.out.setCell (Or.inr rfl) _).drew⟩
                  have := HB.out.l64_set (i := k) (by rw [len_foldTo]; exact hlt) (M.gt h k ^^^ (M.gt vf k ^^^ M.gt vf (k + 8)))
                  rw [foldTo_step _ _ _ hlt] at this
                  exact this
                case measure => simp [intOf]; omega
              · obtain rfl : k = 8 := by omega
                have hf : Row wr bh (l64 (M.fold h vf)) 3 := by rw [← foldTo_all]; exact HB.out
                have HF := Lib.hid hf
                have HKF := Lib.hid ((Keep.of_old (S := (· = bh)) HOR.out).trans KK.out)
                clear hf HB KK hk hlt
                go_wp2
                go_end0
                exact ⟨rfl, by rw [HMEQ.out, HP.out]; exact HF.out, HKF.out⟩
end Go.Proofs.YtabcobadglgfkaaGreatDoor
