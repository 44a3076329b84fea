/- The chapter's examples hold. -/
import Derived.Test.YtflkinglgnkchaaDoorPackG
namespace Go.Proofs.YtflkinglgnkchaaDoor
open Go.RowKit

theorem itoa1 (n : Nat) (h : n < 10) : Lib.itoa (n : Int) = [UInt8.ofNat (48 + n)] := by rw [M.itoa_nat, M.dec_small h]
theorem ex_text (w : World) (ht : Tab w) : Calls Tryd.prog 11 #[.string ⟨#[97, 98, 99]⟩] w fun e w' => e = .returned (.string ⟨#[51, 58, 97, 98, 99, 44]⟩) ∧ Old w w' := by
  refine (ptext_any ⟨#[97, 98, 99]⟩ w ht (by decide)).mono ?_
  rintro e w' ⟨rfl, ho⟩
  refine ⟨ret_str (ba_inj ?_), ho⟩
  show M.pack [97, 98, 99] = _
  unfold M.pack
  rw [show (([97, 98, 99] : List UInt8).length : Int) = ((3 : Nat) : Int) from rfl, itoa1 3 (by decide)]
  rfl
theorem ex_empty (w : World) (ht : Tab w) : Calls Tryd.prog 11 #[.string ⟨#[]⟩] w fun e w' => e = .returned (.string ⟨#[48, 58, 44]⟩) ∧ Old w w' := by
  refine (ptext_any ⟨#[]⟩ w ht (by decide)).mono ?_
  rintro e w' ⟨rfl, ho⟩
  refine ⟨ret_str (ba_inj ?_), ho⟩
  show M.pack [] = _
  unfold M.pack
  rw [show (([] : List UInt8).length : Int) = ((0 : Nat) : Int) from rfl, itoa1 0 (by decide)]
  rfl
theorem ex_num (w : World) (ht : Tab w) : Calls Tryd.prog 14 #[.int .i64 (-7)] w fun e w' => e = .returned (.string ⟨#[50, 58, 45, 55, 44]⟩) ∧ Old w w' := by
  refine (pnum_any (-7) (by decide) (by decide) w ht).mono ?_
  rintro e w' ⟨rfl, ho⟩
  refine ⟨ret_str (ba_inj ?_), ho⟩
  have h7 : Lib.itoa (-7) = [45, 55] := by
    unfold Lib.itoa
    rw [if_pos (by decide), show (-7 : Int).natAbs = 7 from rfl, M.dec_small (by decide)]
    rfl
  rw [h7]
  show M.pack [45, 55] = _
  unfold M.pack
  rw [show (([45, 55] : List UInt8).length : Int) = ((2 : Nat) : Int) from rfl, itoa1 2 (by decide)]
  rfl
theorem ex_packs : M.packs [[97], []] = [49, 58, 97, 44, 48, 58, 44] := by
  unfold M.packs M.pack
  simp only [List.map_cons, List.map_nil]
  rw [show (([97] : List UInt8).length : Int) = ((1 : Nat) : Int) from rfl, itoa1 1 (by decide), show (([] : List UInt8).length : Int) = ((0 : Nat) : Int) from rfl, itoa1 0 (by decide)]
  rfl
theorem ex_list (v : Value) (B : Nat) (w : World) (ht : Tab w) (hv : Sl B w v [vstr [97], vstr []]) (hB : B ≤ w.heap.size) :
    Calls Tryd.prog 17 #[v] w fun e w' => e = .returned (.string ⟨#[55, 58, 49, 58, 97, 44, 48, 58, 44, 44]⟩) ∧ Old w w' := by
  refine (plist_any v [[97], []] B w ht hv hB (by decide) (by rw [ex_packs]; decide) (by intro s hs; simp at hs; rcases hs with rfl | rfl <;> decide)).mono ?_
  rintro e w' ⟨rfl, ho⟩
  refine ⟨ret_str (ba_inj ?_), ho⟩
  rw [ex_packs]
  show M.pack [49, 58, 97, 44, 48, 58, 44] = _
  unfold M.pack
  rw [show (([49, 58, 97, 44, 48, 58, 44] : List UInt8).length : Int) = ((7 : Nat) : Int) from rfl, itoa1 7 (by decide)]
  rfl
theorem ex_n1 : nextS ([48, 49, 58, 97, 44], 0) = ([], false, ([], 11)) := by decide
theorem ex_n2 : nextS ([51, 58, 97, 98], 0) = ([], false, ([], 10)) := by decide
theorem ex_n3 : nextS ([49, 58, 97, 59], 0) = ([], false, ([], 11)) := by decide

set_option maxHeartbeats 1000000 in
set_option maxRecDepth 100000 in
theorem awake_any (w : World) (ht : Tab w) :
    Calls Tryd.prog 13 #[] w fun e w' => e = .returned (.bool true) ∧ Old w w' := by
  go_enter Tryd.func13, Tryd.ntmps13
  go_wp2_with fail
  refine (read_any _ _).mono ?_; rintro e w' ⟨rfl, rfl⟩
  go_wp2_with fail
  refine (read_any _ _).mono ?_; rintro e w' ⟨rfl, rfl⟩
  go_wp2_with fail
  refine (read_any _ _).mono ?_; rintro e w' ⟨rfl, rfl⟩
  simp only [World.size_alloc]
  have r0 : Rd (((w.alloc (Obj.cells #[.string ⟨#[48, 49, 58, 97, 44]⟩, .int .i64 0] 55)).alloc (Obj.cells #[.string ⟨#[51, 58, 97, 98]⟩, .int .i64 0] 55)).alloc (Obj.cells #[.string ⟨#[49, 58, 97, 59]⟩, .int .i64 0] 55)) w.heap.size ([48, 49, 58, 97, 44], 0) := ((Blk.new w _ _).alloc _).alloc _
  have r1 : Rd (((w.alloc (Obj.cells #[.string ⟨#[48, 49, 58, 97, 44]⟩, .int .i64 0] 55)).alloc (Obj.cells #[.string ⟨#[51, 58, 97, 98]⟩, .int .i64 0] 55)).alloc (Obj.cells #[.string ⟨#[49, 58, 97, 59]⟩, .int .i64 0] 55)) (w.heap.size + 1) ([51, 58, 97, 98], 0) := by
    have h := Blk.new (w.alloc (Obj.cells #[.string ⟨#[48, 49, 58, 97, 44]⟩, .int .i64 0] 55)) #[.string ⟨#[51, 58, 97, 98]⟩, .int .i64 0] 55
    rw [World.size_alloc] at h
    exact h.alloc _
  have r2 : Rd (((w.alloc (Obj.cells #[.string ⟨#[48, 49, 58, 97, 44]⟩, .int .i64 0] 55)).alloc (Obj.cells #[.string ⟨#[51, 58, 97, 98]⟩, .int .i64 0] 55)).alloc (Obj.cells #[.string ⟨#[49, 58, 97, 59]⟩, .int .i64 0] 55)) (w.heap.size + 1 + 1) ([49, 58, 97, 59], 0) := by
    have h := Blk.new ((w.alloc (Obj.cells #[.string ⟨#[48, 49, 58, 97, 44]⟩, .int .i64 0] 55)).alloc (Obj.cells #[.string ⟨#[51, 58, 97, 98]⟩, .int .i64 0] 55)) #[.string ⟨#[49, 58, 97, 59]⟩, .int .i64 0] 55
    rw [World.size_alloc, World.size_alloc] at h
    exact h
  have k0 : Keep (fun k => w.heap.size ≤ k) w (((w.alloc (Obj.cells #[.string ⟨#[48, 49, 58, 97, 44]⟩, .int .i64 0] 55)).alloc (Obj.cells #[.string ⟨#[51, 58, 97, 98]⟩, .int .i64 0] 55)).alloc (Obj.cells #[.string ⟨#[49, 58, 97, 59]⟩, .int .i64 0] 55)) := (((Keep.refl _ _).alloc _).alloc _).alloc _
  generalize ((w.alloc (Obj.cells #[.string ⟨#[48, 49, 58, 97, 44]⟩, .int .i64 0] 55)).alloc (Obj.cells #[.string ⟨#[51, 58, 97, 98]⟩, .int .i64 0] 55)).alloc (Obj.cells #[.string ⟨#[49, 58, 97, 59]⟩, .int .i64 0] 55) = w0 at *
  generalize hN : w.heap.size = N at *
  have HN := Lib.hid hN
  clear hN
  go_wp2_with fail
  refine (text_any N _ _ r0 (by decide)).mono ?_; rintro e w1 ⟨rfl, q0, k1⟩
  rw [ex_n1] at q0
  have q1 := r1.keep k1 (by omega)
  have q2 := r2.keep k1 (by omega)
  have l1 : Keep (fun k => N ≤ k) w w1 := k0.trans (k1.mono (fun k _ h => by omega))
  clear r0 r1 r2 k0 k1
  go_wp2_with fail
  refine (text_any (N + 1) _ _ q1 (by decide)).mono ?_; rintro e w2 ⟨rfl, r1, k1⟩
  rw [ex_n2] at r1
  have r0 := q0.keep k1 (by omega)
  have r2 := q2.keep k1 (by omega)
  have l2 : Keep (fun k => N ≤ k) w w2 := l1.trans (k1.mono (fun k _ h => by omega))
  clear q0 q1 q2 k1 l1
  go_wp2_with fail
  refine (text_any (N + 1 + 1) _ _ r2 (by decide)).mono ?_; rintro e w3 ⟨rfl, q2, k1⟩
  rw [ex_n3] at q2
  have q0 := r0.keep k1 (by omega)
  have q1 := r1.keep k1 (by omega)
  have l3 : Keep (fun k => N ≤ k) w w3 := l2.trans (k1.mono (fun k _ h => by omega))
  clear r0 r1 r2 k1 l2
  have o3 : Old w w3 := l3.old (fun k hk => by have := HN.out; omega)
  clear l3
  go_wp2_with fail
  refine (ex_text _ (ht.old o3)).mono ?_; rintro e w4 ⟨rfl, o4⟩
  have o4' := o3.trans o4
  go_wp2_with fail
  refine (ex_empty _ (ht.old o4')).mono ?_; rintro e w5 ⟨rfl, o5⟩
  have o5' := o4'.trans o5
  go_wp2_with fail
  refine (ex_num _ (ht.old o5')).mono ?_; rintro e w6 ⟨rfl, o6⟩
  have o6' := o5'.trans o6
  go_wp2_with fail
  have hsl : Sl (w6.alloc (Obj.cells #[.string ⟨#[97]⟩, .string ⟨#[]⟩] 9)).heap.size (w6.alloc (Obj.cells #[.string ⟨#[97]⟩, .string ⟨#[]⟩] 9)) (.slice (some ⟨w6.heap.size, 0, none⟩) 2 2) [vstr [97], vstr []] :=
    ⟨_, 2, rfl, (fun h => by cases h), fun _ => ⟨_, 0, rfl, by simp, fun j hj => by rw [(Blk.new w6 _ _).cell]; match j, hj with | 0, _ => rfl | 1, _ => rfl⟩⟩
  have o7 := o6'.trans (Old.alloc w6 (Obj.cells #[.string ⟨#[97]⟩, .string ⟨#[]⟩] 9))
  have o7' := ((o4.trans o5).trans o6).trans (Old.alloc w6 (Obj.cells #[.string ⟨#[97]⟩, .string ⟨#[]⟩] 9))
  refine (ex_list _ _ _ (ht.old o7) hsl (Nat.le_refl _)).mono ?_; rintro e w8 ⟨rfl, o8⟩
  have p0 := (q0.old o7').old o8
  have p1 := (q1.old o7').old o8
  have p2 := (q2.old o7').old o8
  have o9 := o7.trans o8
  clear q0 q1 q2 hsl o7 o7' o8 o3 o4 o5 o6 o4' o5' o6'
  go_wp2_with fail
  refine (end_any _ _ _ p0).mono ?_; rintro e w9 ⟨rfl, rfl⟩
  simp only [endOf]
  go_wp2_with fail
  refine (end_any _ _ _ p1).mono ?_; rintro e w9 ⟨rfl, rfl⟩
  simp only [endOf]
  go_wp2_with fail
  refine (end_any _ _ _ p2).mono ?_; rintro e w9 ⟨rfl, rfl⟩
  simp only [endOf]
  go_wp2
  go_ret
  exact ⟨rfl, o9⟩
end Go.Proofs.YtflkinglgnkchaaDoor
