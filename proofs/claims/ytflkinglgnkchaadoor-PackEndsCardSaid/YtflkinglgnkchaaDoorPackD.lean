/- What a text, a number, and a list are, packed. -/
import Derived.Test.YtflkinglgnkchaaDoorPackC
import Derived.Test.YtflkinglgnkchaaDoorTab
import Derived.Test.YtflkinglgnkchaaDoorPackM2
import Derived.Test.YtflkinglgnkchaaDoorShelf
import Derived.Lib.ItoaLen
namespace Go.Proofs.YtflkinglgnkchaaDoor
open Go.RowKit


theorem old_grow (w : World) (k : Nat) (os : Array Obj) : Old w (Sort.grow (w.drewN k) os) :=
  ⟨rfl, rfl, rfl, by simp [Sort.grow, World.drewN], fun i hi => by simp only [Sort.grow, World.drewN]; rw [Array.getElem?_append_left hi]⟩

theorem itoa_any (n : Int) (h0 : -9223372036854775808 ≤ n) (h1 : n ≤ 9223372036854775807) (w : World) (ht : Tab w) :
    Calls Tryd.prog 31 #[.int .i64 n] w fun e w' => e = .returned (.string ⟨⟨Lib.itoa n⟩⟩) ∧ Old w w' :=
  (Tryd.strconv_Itoa n h0 h1 w ht).mono (by rintro e w' ⟨rfl, k, os, rfl⟩; exact ⟨rfl, old_grow w k os⟩)

set_option maxHeartbeats 400000 in
theorem ptext_any (s : ByteArray) (w : World) (ht : Tab w) (hs : s.size ≤ 9223372036854775000) :
    Calls Tryd.prog 11 #[.string s] w fun e w' => e = .returned (.string ⟨⟨M.pack s.data.toList⟩⟩) ∧ Old w w' := by
  have hl := Lib.itoa_length_le (s.size : Int) (by omega) (by omega)
  generalize hi : Lib.itoa (s.size : Int) = it at *
  have HI := Lib.hid hi
  clear hi
  go_enter Tryd.func11, Tryd.ntmps11
  go_wp2_with ((with_reducible refine (itoa_any _ (by omega) (by omega) _ ht).mono ?_); rintro e w' ⟨rfl, ho⟩; rw [HI.out])
  go_ret
  refine ⟨ret_str (ba_eq ?_), ho⟩
  have : ((s.data.toList.length : Nat) : Int) = s.size := by simp
  simp only [M.pack, this, HI.out]
  simp
set_option maxHeartbeats 400000 in
theorem pnum_any (n : Int) (h0 : -9223372036854775808 ≤ n) (h1 : n ≤ 9223372036854775807) (w : World) (ht : Tab w) :
    Calls Tryd.prog 14 #[.int .i64 n] w fun e w' => e = .returned (.string ⟨⟨M.pack (Lib.itoa n)⟩⟩) ∧ Old w w' := by
  have hl := Lib.itoa_length_le n h0 h1
  go_enter Tryd.func14, Tryd.ntmps14
  go_wp2_with (first | ((with_reducible refine (itoa_any _ h0 h1 _ ht).mono ?_); rintro e w' ⟨rfl, ho⟩) | ((with_reducible refine (ptext_any _ _ (ht.old ho) (Nat.le_trans (show (Lib.itoa n).length ≤ 21 from hl) (by decide))).mono ?_); rintro e w2 ⟨rfl, ho2⟩))
  go_ret
  exact ⟨rfl, ho.trans ho2⟩
end Go.Proofs.YtflkinglgnkchaaDoor
