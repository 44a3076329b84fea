/- Merged of: PackM PackM2 PackM3 PackA PackB PackC PackD PackE PackF PackG PackH RefA. -/
import Derived.Test.YtabcobadglgfkaaGreatDoorMC1
import Derived.Test.YtabcobadglgfkaaGreatDoorShelf
import Derived.KernelRfl
import Derived.Lib.ItoaLen
import Derived.Deep.RegionWith
/- Plain facts on bytes: the digits at a text's beginning, the number that they say, and the first packed text of bytes. Nothing of the program stands here. -/
namespace Go.Proofs.YtabcobadglgfkaaGreatDoor.M

def isDig (c : UInt8) : Bool := decide (48 ≤ c.toNat) && decide (c.toNat ≤ 57)
/-- The digits at the beginning, 7 at most. -/
def digs (l : List UInt8) : List UInt8 := (l.take 7).takeWhile isDig
def num (l : List UInt8) : Nat := l.foldl (fun n c => n * 10 + (c.toNat - 48)) 0

theorem digs_len7 (l : List UInt8) : (digs l).length ≤ 7 := by
  unfold digs
  have h1 := (List.takeWhile_sublist isDig (l := l.take 7)).length_le
  have h2 := List.length_take_le 7 l
  omega
theorem digs_len (l : List UInt8) : (digs l).length ≤ l.length := by
  unfold digs
  have h1 := (List.takeWhile_sublist isDig (l := l.take 7)).length_le
  have h2 := List.length_take_le' 7 l
  omega
theorem takeWhile_len_iff {p : UInt8 → Bool} : ∀ (l : List UInt8) (k : Nat), k ≤ (l.takeWhile p).length → (k < (l.takeWhile p).length ↔ ∃ h : k < l.length, p l[k] = true)
  | [], k, _ => by simp
  | a :: l, 0, _ => by
      by_cases h : p a <;> simp [h]
  | a :: l, k + 1, h => by
      by_cases ha : p a = true
      · simp only [List.takeWhile_cons, ha, if_true, List.length_cons] at h ⊢
        have := takeWhile_len_iff (p := p) l k (by omega)
        simp only [Nat.add_lt_add_iff_right, List.getElem_cons_succ]
        exact this
      · simp [ha] at h
theorem digs_more (l : List UInt8) (k : Nat) (h : k ≤ (digs l).length) : k < (digs l).length ↔ k < 7 ∧ ∃ h : k < l.length, isDig l[k] = true := by
  unfold digs at h ⊢
  rw [takeWhile_len_iff _ _ h]
  constructor
  · rintro ⟨h1, h2⟩
    have : k < 7 ∧ k < l.length := by simpa [Nat.lt_min] using h1
    exact ⟨this.1, this.2, by simpa using h2⟩
  · rintro ⟨h1, h2, h3⟩
    exact ⟨by simp; omega, by simpa using h3⟩
theorem digs_take (l : List UInt8) : digs l = l.take (digs l).length := by
  unfold digs
  have h := List.takeWhile_append_dropWhile (p := isDig) (l := l.take 7)
  have h1 : (l.take 7).takeWhile isDig = (l.take 7).take ((l.take 7).takeWhile isDig).length := by
    have := List.take_left (l₁ := (l.take 7).takeWhile isDig) (l₂ := (l.take 7).dropWhile isDig)
    rw [h] at this
    exact this.symm
  have h2 := (List.takeWhile_sublist isDig (l := l.take 7)).length_le
  have h3 := List.length_take_le 7 l
  rw [List.take_take, Nat.min_eq_left (by omega)] at h1
  exact h1
theorem num_snoc (l : List UInt8) (c : UInt8) : num (l ++ [c]) = num l * 10 + (c.toNat - 48) := by simp [num]
theorem snoc_ind {p : List UInt8 → Prop} (h0 : p []) (h1 : ∀ l c, p l → p (l ++ [c])) (l : List UInt8) : p l := by
  rw [← List.reverse_reverse l]
  induction l.reverse with
  | nil => exact h0
  | cons c t ih => rw [List.reverse_cons]; exact h1 _ _ ih
theorem num_lt (l : List UInt8) : (∀ c ∈ l, isDig c = true) → num l < 10 ^ l.length := by
  refine snoc_ind (p := fun l => (∀ c ∈ l, isDig c = true) → num l < 10 ^ l.length) ?_ ?_ l
  · simp [num]
  · intro l c ih h
    have h1 := ih (fun x hx => h x (by simp [hx]))
    have h2 := h c (by simp)
    simp [isDig] at h2
    rw [num_snoc]
    simp [Nat.pow_succ]
    omega
theorem mem_tw {p : UInt8 → Bool} {c : UInt8} : ∀ {l : List UInt8}, c ∈ l.takeWhile p → p c = true
  | [], h => by simp at h
  | a :: l, h => by
      by_cases ha : p a = true
      · simp only [List.takeWhile_cons, ha, if_true, List.mem_cons] at h
        rcases h with rfl | h
        · exact ha
        · exact mem_tw h
      · simp [ha] at h
theorem digs_dig (l : List UInt8) : ∀ c ∈ digs l, isDig c = true := fun c h => by
  unfold digs at h
  exact mem_tw h

/-- THE FIRST PACKED TEXT of bytes, what is behind it, and what is wrong. -/
def cut (l : List UInt8) : List UInt8 × List UInt8 × Int :=
  let k := (digs l).length
  let n := num (digs l)
  if k = l.length then ([], [], 10)
  else if l[k]? ≠ some 58 ∨ k = 0 ∨ (1 < k ∧ l[0]? = some 48) then ([], [], 11)
  else if (l.drop (k + 1)).length < n + 1 then ([], [], 10)
  else if (l.drop (k + 1))[n]? ≠ some 44 then ([], [], 11)
  else ((l.drop (k + 1)).take n, (l.drop (k + 1)).drop (n + 1), 0)
end Go.Proofs.YtabcobadglgfkaaGreatDoor.M

/- Plain facts on packed texts: what is packed is cut off again, a list is unpacked text by text. Nothing of the program stands here. -/
namespace Go.Proofs.YtabcobadglgfkaaGreatDoor.M
open Go.Lib

theorem cut_shorter {l : List UInt8} (h : (cut l).2.2 = 0) : (cut l).2.1.length + (cut l).1.length < l.length ∧ l ≠ [] := by
  unfold cut at h ⊢
  simp only at h ⊢
  split at h
  · simp at h
  · rename_i h1
    rw [if_neg h1]
    split at h
    · simp at h
    · rename_i h2
      rw [if_neg h2]
      split at h
      · simp at h
      · rename_i h3
        rw [if_neg h3]
        split at h
        · simp at h
        · rename_i h4
          rw [if_neg h4]
          simp only [List.length_drop] at h3
          constructor
          · simp only [List.length_drop, List.length_take]; omega
          · rintro rfl; simp at h3
/-- All packed texts of bytes, to their end. -/
def unp : Nat → List UInt8 → Option (List (List UInt8))
  | 0, _ => some []
  | n + 1, l => if l = [] then some [] else if (cut l).2.2 ≠ 0 then none else (unp n (cut l).2.1).map ((cut l).1 :: ·)
theorem unp_fuel : ∀ (n m : Nat) (l : List UInt8), l.length ≤ n → l.length ≤ m → unp n l = unp m l
  | 0, 0, _, _, _ => rfl
  | 0, m + 1, l, h, _ => by
      obtain rfl : l = [] := List.eq_nil_of_length_eq_zero (by omega)
      simp [unp]
  | n + 1, 0, l, _, h => by
      obtain rfl : l = [] := List.eq_nil_of_length_eq_zero (by omega)
      simp [unp]
  | n + 1, m + 1, l, h, h' => by
      simp only [unp]
      by_cases h0 : l = []
      · simp [h0]
      · rw [if_neg h0, if_neg h0]
        by_cases hc : (cut l).2.2 = 0
        · have := cut_shorter hc
          rw [unp_fuel n m (cut l).2.1 (by omega) (by omega)]
        · simp [hc]
def unpk (l : List UInt8) : Option (List (List UInt8)) := unp l.length l
theorem unpk_nil : unpk [] = some [] := rfl
theorem unpk_bad {l : List UInt8} (h0 : l ≠ []) (h : (cut l).2.2 ≠ 0) : unpk l = none := by
  unfold unpk
  cases l with
  | nil => exact absurd rfl h0
  | cons c r => simp [unp, h]
theorem unpk_ok {l : List UInt8} (h : (cut l).2.2 = 0) : unpk l = (unpk (cut l).2.1).map ((cut l).1 :: ·) := by
  have hs := cut_shorter h
  unfold unpk
  cases l with
  | nil => exact absurd rfl hs.2
  | cons c r =>
    rw [show (c :: r).length = r.length + 1 from rfl, unp, if_neg (by simp), if_neg (by simpa using h)]
    rw [unp_fuel r.length (cut (c :: r)).2.1.length (cut (c :: r)).2.1 (by have := hs.1; simp only [List.length_cons] at this; omega) (Nat.le_refl _)]

/-- A text, packed. -/
def pack (l : List UInt8) : List UInt8 := itoa l.length ++ 58 :: l ++ [44]
def packs (l : List (List UInt8)) : List UInt8 := (l.map pack).flatten

theorem itoa_nat (n : Nat) : itoa (n : Int) = decDigits n := by unfold itoa; rw [if_neg (by omega)]; simp
theorem num_dec (u : Nat) : num (decDigits u) = u := by
  refine dec_ind (p := fun u => num (decDigits u) = u) ?_ ?_ u
  · intro u h
    rw [dec_small h]
    simp only [num, List.foldl_cons, List.foldl_nil]
    rw [ofNat_toNat h]; omega
  · intro u h ih
    rw [dec_big h, num_snoc, ih, ofNat_toNat (by omega)]; omega
theorem takeWhile_all {p : UInt8 → Bool} : ∀ (l r : List UInt8), (∀ c ∈ l, p c = true) → (l ++ r).takeWhile p = l ++ r.takeWhile p
  | [], r, _ => by simp
  | c :: l, r, h => by
      rw [List.cons_append, List.takeWhile_cons, if_pos (h c (by simp)), takeWhile_all l r (fun x hx => h x (by simp [hx]))]
      rfl
theorem digs_dec (u : Nat) (h : u < 10000000) (r : List UInt8) : digs (decDigits u ++ 58 :: r) = decDigits u := by
  have hl : (decDigits u).length ≤ 7 := dec_len u 7 (by omega) (by omega)
  unfold digs
  rw [List.take_append, List.take_of_length_le hl, takeWhile_all _ _ (fun c hc => by have := dec_dig u c hc; simp [isDig]; omega)]
  have : ((58 :: r).take (7 - (decDigits u).length)).takeWhile isDig = [] := by
    cases 7 - (decDigits u).length with
    | zero => simp
    | succ n => rw [List.take_succ_cons, List.takeWhile_cons, if_neg (by decide)]
  rw [this, List.append_nil]
theorem dec_one {u : Nat} (h : 1 < (decDigits u).length) : (decDigits u)[0]? ≠ some 48 := by
  have hu : 0 < u := by
    rcases Nat.eq_zero_or_pos u with rfl | h0
    · rw [dec_small (by omega)] at h; simp at h
    · exact h0
  obtain ⟨c, r, hc, h49⟩ := dec_head u hu
  rw [hc]
  intro h'
  have : c = 48 := by simpa using h'
  subst this
  exact absurd h49 (by decide)
theorem cut_pack (l r : List UInt8) (h : l.length < 10000000) : cut (pack l ++ r) = (l, r, 0) := by
  have e : pack l ++ r = decDigits l.length ++ 58 :: (l ++ 44 :: r) := by simp [pack, itoa_nat]
  rw [e]
  have hd := digs_dec l.length h (l ++ 44 :: r)
  have hn := num_dec l.length
  have hne : (decDigits l.length) ≠ [] := dec_ne _
  have h1 := @dec_one l.length
  generalize decDigits l.length = d at *
  unfold cut
  simp only [hd, hn]
  have hdl : d.length ≠ 0 := by simpa using hne
  rw [if_neg (by simp), if_neg, if_neg, if_neg]
  · have a1 : List.drop (d.length + 1) d = [] := List.drop_eq_nil_of_le (by omega)
    have a3 : List.drop (l.length + 1) l = [] := List.drop_eq_nil_of_le (by omega)
    simp [List.drop_append, a1, a3]
  · simp [List.drop_append]
  · simp [List.drop_append]
  · rintro (h2 | h2 | ⟨h2, h3⟩)
    · exact h2 (by simp)
    · exact hdl h2
    · rw [List.getElem?_append_left (by omega)] at h3
      exact h1 h2 h3
theorem pack_ne (l : List UInt8) : pack l ≠ [] := by simp [pack]
theorem unpk_packs : ∀ (l : List (List UInt8)), (∀ s ∈ l, s.length < 10000000) → unpk (packs l) = some l
  | [], _ => rfl
  | s :: l, h => by
      have hc := cut_pack s (packs l) (h s (by simp))
      have e : packs (s :: l) = pack s ++ packs l := by simp [packs]
      rw [e, unpk_ok (by rw [hc]), hc, unpk_packs l (fun x hx => h x (by simp [hx]))]
      rfl
theorem packs_snoc (l : List (List UInt8)) (s : List UInt8) : packs (l ++ [s]) = packs l ++ pack s := by simp [packs]
theorem packs_take (l : List (List UInt8)) (k : Nat) : (packs (l.take k)).length ≤ (packs l).length := by
  have h : (packs (l.take k ++ l.drop k)).length = (packs (l.take k)).length + (packs (l.drop k)).length := by unfold packs; rw [List.map_append, List.flatten_append, List.length_append]
  rw [List.take_append_drop] at h
  omega
theorem pack_len (l : List UInt8) (h : l.length < 1000000000000000000) : (pack l).length ≤ l.length + 20 := by
  have := dec_len l.length 18 (by omega) (by omega)
  simp [pack, itoa_nat]; omega
end Go.Proofs.YtabcobadglgfkaaGreatDoor.M

/- Plain facts: no packed text is the beginning of another one; what is cut off is told. Nothing of the program stands here. -/
namespace Go.Proofs.YtabcobadglgfkaaGreatDoor.M
open Go.Lib

theorem pack_prefix {a b r : List UInt8} (ha : a.length < 10000000) (hb : b.length < 10000000) (h : pack b = pack a ++ r) : a = b := by
  have h1 := cut_pack a r ha
  have h2 := cut_pack b [] hb
  rw [List.append_nil, h, h1] at h2
  exact (Prod.mk.inj h2).1
theorem digs_all (l : List UInt8) (h7 : l.length ≤ 7) (h : ∀ c ∈ l, 48 ≤ c.toNat ∧ c.toNat ≤ 57) : digs l = l := by
  unfold digs
  rw [List.take_of_length_le h7]
  have := takeWhile_all (p := isDig) l [] (fun c hc => by have := h c hc; simp [isDig]; omega)
  simpa using this
theorem cut_short (l : List UInt8) (h : l.length < 10000000) (n : Nat) (hn : n < (pack l).length) : (cut ((pack l).take n)).2.2 = 10 := by
  have e : pack l = decDigits l.length ++ 58 :: (l ++ [44]) := by simp [pack, itoa_nat]
  rw [e] at hn ⊢
  have hl : (decDigits l.length).length ≤ 7 := dec_len l.length 7 (by omega) (by omega)
  have hne : (decDigits l.length) ≠ [] := dec_ne _
  have h1 := @dec_one l.length
  by_cases hc : n ≤ (decDigits l.length).length
  · rw [List.take_append_of_le_length hc]
    have hd : digs ((decDigits l.length).take n) = (decDigits l.length).take n := digs_all _ (by simp; omega) (fun c hc => dec_dig _ c (List.mem_of_mem_take hc))
    unfold cut
    simp only [hd]
    simp
  · obtain ⟨m, rfl⟩ : ∃ m, n = (decDigits l.length).length + (m + 1) := ⟨n - (decDigits l.length).length - 1, by omega⟩
    have ht : (decDigits l.length ++ 58 :: (l ++ [44])).take ((decDigits l.length).length + (m + 1)) = decDigits l.length ++ 58 :: (l ++ [44]).take m := by
      rw [List.take_append, List.take_of_length_le (by omega)]
      simp
    rw [ht]
    have hd := digs_dec l.length h ((l ++ [44]).take m)
    have hnum := num_dec l.length
    have hm : m < l.length + 1 := by simp at hn; omega
    generalize decDigits l.length = d at *
    unfold cut
    simp only [hd, hnum]
    have hdl : d.length ≠ 0 := by simpa using hne
    have a1 : List.drop (d.length + 1) d = [] := List.drop_eq_nil_of_le (by omega)
    rw [if_neg (by simp), if_neg, if_pos]
    · simp [List.drop_append, a1]; omega
    · rintro (h2 | h2 | ⟨h2, h3⟩)
      · exact h2 (by simp)
      · exact hdl h2
      · rw [List.getElem?_append_left (by omega)] at h3
        exact h1 h2 h3
theorem pack_len3 (l : List UInt8) : 3 ≤ (pack l).length := by
  have := List.length_pos_iff.2 (dec_ne l.length)
  simp [pack, itoa_nat]; omega
end Go.Proofs.YtabcobadglgfkaaGreatDoor.M

/- The small contracts of the package pack: a new reader, what is left, the end, the failure. -/
namespace Go.Proofs.YtabcobadglgfkaaGreatDoor
open Go.RowKit

set_option maxHeartbeats 400000 in
theorem read_any (s : ByteArray) (w : World) :
    Calls Tryz.prog 45 #[.string s] w fun e w' => e = .returned (.pointer (some ⟨w.heap.size, 0, none⟩)) ∧ w' = w.alloc (.cells #[.string s, .int .i64 0] 116) := by
  go_enter Tryz.func45, Tryz.ntmps45
  go_wp2
  go_ret
  exact ⟨rfl, rfl⟩

set_option maxHeartbeats 400000 in
theorem left_nil (w : World) :
    Calls Tryz.prog 46 #[.pointer none] w fun e w' => e = .returned (.int .i64 0) ∧ w' = w := by
  go_enter Tryz.func46, Tryz.ntmps46
  go_wp2
  go_ret
  exact ⟨rfl, rfl⟩

set_option maxHeartbeats 400000 in
theorem left_any (b : Nat) (s : ByteArray) (w : World) (h0 : w.cell? ⟨b, 0, none⟩ = some (.string s)) :
    Calls Tryz.prog 46 #[.pointer (some ⟨b, 0, none⟩)] w fun e w' => e = .returned (.int .i64 s.size) ∧ w' = w := by
  go_enter Tryz.func46, Tryz.ntmps46
  go_wp2
  go_ret
  exact ⟨rfl, rfl⟩

/-- A reader in block b: what is left, and what was wrong. -/
def Rd (w : World) (b : Nat) (r : List UInt8 × Int) : Prop := Blk w b #[.string ⟨⟨r.1⟩⟩, .int .i64 r.2] 116

theorem Rd.old {w w' : World} {b : Nat} {r : List UInt8 × Int} (h : Rd w b r) (k : Old w w') : Rd w' b r := Blk.old h k
theorem Rd.keep {S : Nat → Prop} {w w' : World} {b : Nat} {r : List UInt8 × Int} (h : Rd w b r) (k : Keep S w w') (hb : ¬ S b) : Rd w' b r := Blk.keep h k hb
set_option maxHeartbeats 400000 in
theorem fail_any (b : Nat) (s : ByteArray) (e x : Int) (w : World) (h : Blk w b #[.string s, .int .i64 e] 116) :
    Calls Tryz.prog 88 #[.pointer (some ⟨b, 0, none⟩), .int .i64 x] w fun e w' => e = .returned (.tuple #[]) ∧ Rd w' b ([], x) ∧ Keep (· = b) w w' := by
  have h0 := h.cellN 0 rfl
  have h1 := h.cellN 1 rfl
  have f0 := h.free 0
  have f1 := h.free 1
  go_enter Tryz.func88, Tryz.ntmps88
  go_wp2
  go_end0
  exact ⟨rfl, (h.set 0 _).set 1 _, ((Keep.refl _ _).set1 0 _).set1 1 _⟩

set_option maxHeartbeats 400000 in
theorem end_nil (w : World) :
    Calls Tryz.prog 87 #[.pointer none] w fun e w' => e = .returned (.int .i64 2) ∧ w' = w := by
  go_enter Tryz.func87, Tryz.ntmps87
  go_wp2
  go_ret
  exact ⟨rfl, rfl⟩

def endOf (r : List UInt8 × Int) : Int := if r.2 ≠ 0 then r.2 else if r.1 ≠ [] then 12 else 0

set_option maxHeartbeats 400000 in
theorem end_any (b : Nat) (r : List UInt8 × Int) (w : World) (h : Rd w b r) :
    Calls Tryz.prog 87 #[.pointer (some ⟨b, 0, none⟩)] w fun e w' => e = .returned (.int .i64 (endOf r)) ∧ w' = w := by
  obtain ⟨l, e⟩ := r
  have h0 := Blk.cellN h 0 rfl
  have h1 := Blk.cellN h 1 rfl
  by_cases he : e = 0
  · subst he
    cases l with
    | nil =>
      go_enter Tryz.func87, Tryz.ntmps87
      go_wp2
      go_ret
      exact ⟨rfl, rfl⟩
    | cons c l =>
      go_enter Tryz.func87, Tryz.ntmps87
      go_wp2
      go_ret
      exact ⟨rfl, rfl⟩
  · have he' : (e != 0) = true := by simpa using he
    go_enter Tryz.func87, Tryz.ntmps87
    go_wp2
    go_ret
    exact ⟨by simp [endOf, he], rfl⟩
end Go.Proofs.YtabcobadglgfkaaGreatDoor

/- The first packed text of bytes: pack.length and pack.cut. -/
namespace Go.Proofs.YtabcobadglgfkaaGreatDoor
open Go.RowKit

set_option maxHeartbeats 400000 in
theorem length_any (s : ByteArray) (w : World) (_ : s.size ≤ maxLen) :
    Calls Tryz.prog 149 #[.string s] w fun e w' => e = .returned (.tuple #[.int .i64 (M.num (M.digs s.data.toList)), .int .i64 (M.digs s.data.toList).length]) ∧ w' = w := by
  have hz : s.data.toList.length = s.size := by simp
  go_enter Tryz.func149, Tryz.ntmps149
  go_wp2
  go_loop [4, 5] (fun n i => ∃ k : Nat, k ≤ (M.digs s.data.toList).length ∧ i = .int .i64 k ∧ n = .int .i64 (M.num (s.data.toList.take k))) (fun _ i => s.size - (intOf i).toNat)
  case atStart => exact ⟨0, Nat.zero_le _, rfl, rfl⟩
  case round =>
    obtain ⟨k, hk, rfl, rfl⟩ := hrel
    have hmore := M.digs_more s.data.toList k hk
    have h7 := M.digs_len7 s.data.toList
    have hl := M.digs_len s.data.toList
    have hb : M.num (s.data.toList.take k) < 10 ^ 7 := by
      have h1 := M.num_lt (s.data.toList.take k) (fun c hc => by
        have h2 := M.digs_dig s.data.toList c
        rw [M.digs_take] at h2
        exact h2 (List.take_subset_take_left _ hk hc))
      refine Nat.lt_of_lt_of_le h1 (Nat.pow_le_pow_right (by omega) ?_)
      have := List.length_take_le k s.data.toList
      omega
    by_cases hlt : k < (M.digs s.data.toList).length
    · obtain ⟨h1, h2, h3⟩ := hmore.1 hlt
      have h4 : k < s.size := by omega
      have h5 : M.isDig s[k] = true := h3
      simp [M.isDig] at h5
      obtain ⟨h6, h8⟩ := h5
      clear hmore h3 h2
      have HS : Hid (M.num (s.data.toList.take (k + 1)) = M.num (s.data.toList.take k) * 10 + (s[k].toNat - 48)) := by
        have e : s.data.toList.take (k + 1) = s.data.toList.take k ++ [s[k]] := by
          rw [List.take_succ_eq_append_getElem (by omega)]; rfl
        rw [e, M.num_snoc]; rfl
      go_wp2
      go_round
      case rel => 
        exact ⟨k + 1, by omega, by go_num, by rw [HS.out]; go_num⟩
      case measure => simp [intOf]; omega
    · have hn : (M.digs s.data.toList).length = k := by omega
      have hno : ¬ (k < 7 ∧ ∃ h : k < s.data.toList.length, M.isDig s.data.toList[k] = true) := fun h => hlt (hmore.2 h)
      have ht := M.digs_take s.data.toList
      rw [hn] at ht
      have fin : Ending.returned (.tuple #[.int .i64 (M.num (s.data.toList.take k)), .int .i64 k]) = Ending.returned (.tuple #[.int .i64 (M.num (M.digs s.data.toList)), .int .i64 (M.digs s.data.toList).length]) := by rw [hn, ht]
      have FIN := Lib.hid fin
      clear hn ht fin hmore hlt hk h7 hl hz
      by_cases a1 : k < 7
      · by_cases a2 : k < s.size
        · have a3 : s[k].toNat < 48 ∨ 57 < s[k].toNat := by
            by_cases h : s[k].toNat < 48 ∨ 57 < s[k].toNat
            · exact h
            · exfalso
              apply hno
              refine ⟨a1, a2, ?_⟩
              have : M.isDig s[k] = true := by simp [M.isDig]; omega
              exact this
          clear hno
          rcases a3 with a3 | a3
          · go_wp2
            go_ret2
            exact ⟨FIN.out, rfl⟩
          · have a4 : 48 ≤ s[k].toNat := by omega
            go_wp2
            go_ret2
            exact ⟨FIN.out, rfl⟩
        · clear hno
          go_wp2
          go_ret2
          exact ⟨FIN.out, rfl⟩
      · clear hno
        go_wp2
        go_ret2
        exact ⟨FIN.out, rfl⟩

/-- what cut answers, as one value -/
def cutV (r : List UInt8 × List UInt8 × Int) : Value := .tuple #[.string ⟨⟨r.1⟩⟩, .string ⟨⟨r.2.1⟩⟩, .int .i64 r.2.2]

set_option maxHeartbeats 4000000 in
theorem cut_any (s : ByteArray) (w : World) (hs : s.size ≤ maxLen) :
    Calls Tryz.prog 114 #[.string s] w fun e w' => e = .returned (cutV (M.cut s.data.toList)) ∧ ∃ n, w' = w.drewN n := by
  have hz : s.data.toList.length = s.size := by simp
  have h7 := M.digs_len7 s.data.toList
  have hl := M.digs_len s.data.toList
  have hb : M.num (M.digs s.data.toList) < 10 ^ 7 := Nat.lt_of_lt_of_le (M.num_lt _ (M.digs_dig _)) (Nat.pow_le_pow_right (by omega) h7)
  have hge : ∀ j (h : j < s.size), s.data.toList[j]? = some s[j] := fun j h => by rw [List.getElem?_eq_getElem (by omega)]; rfl
  have HCUT : Hid (M.cut s.data.toList = M.cut s.data.toList) := rfl
  unfold Hid at HCUT
  conv at HCUT => rhs; unfold M.cut
  generalize hk : (M.digs s.data.toList).length = k at *
  generalize hn : M.num (M.digs s.data.toList) = n at *
  have HK := Lib.hid hk
  have HN := Lib.hid hn
  clear hk hn
  generalize hr : M.cut s.data.toList = r at *
  clear hr
  simp only [hz] at HCUT
  by_cases a1 : k = s.size
  · rw [if_pos a1] at HCUT
    subst HCUT
    go_enter Tryz.func114, Tryz.ntmps114
    go_wp2_with ((with_reducible refine (length_any _ _ hs).mono ?_); rintro e w' ⟨rfl, rfl⟩; rw [HK.out, HN.out])
    exact bodyPost_ret (v := cutV _) (by simp [results, Tryz.results114, go_sem, cutV]; try rfl) rfl ⟨rfl, 0, rfl⟩
  · rw [if_neg a1] at HCUT
    have a2 : k < s.size := by omega
    rw [hge k a2] at HCUT
    by_cases b1 : s[k].toNat = 58
    · have he : s[k] = 58 := UInt8.toNat_inj.1 b1
      have B1 : ((s[k].toNat : Int) != 58) = false := by simp [b1]
      by_cases b2 : k = 0
      · rw [if_pos (Or.inr (Or.inl b2))] at HCUT
        subst HCUT
        have B2 : ((k : Int) == 0) = true := by simp [b2]
        clear hge he b1 b2
        go_enter Tryz.func114, Tryz.ntmps114
        go_wp2_with ((with_reducible refine (length_any _ _ hs).mono ?_); rintro e w' ⟨rfl, rfl⟩; rw [HK.out, HN.out])
        exact bodyPost_ret (v := cutV _) (by simp [results, Tryz.results114, go_sem, cutV]; try rfl) rfl ⟨rfl, 0, rfl⟩
      · have B2 : ((k : Int) == 0) = false := by rw [beq_eq_false_iff_ne]; omega
        have a0 : 0 < s.size := by omega
        rw [hge 0 a0] at HCUT
        by_cases b3 : 1 < k ∧ s[0].toNat = 48
        · rw [if_pos (Or.inr (Or.inr ⟨b3.1, by rw [show s[0] = 48 from UInt8.toNat_inj.1 b3.2]⟩))] at HCUT
          subst HCUT
          obtain ⟨b3, b4⟩ := b3
          have B4 : ((s[0].toNat : Int) == 48) = true := by simp [b4]
          clear hge he b1 b2 b4
          go_enter Tryz.func114, Tryz.ntmps114
          go_wp2_with ((with_reducible refine (length_any _ _ hs).mono ?_); rintro e w' ⟨rfl, rfl⟩; rw [HK.out, HN.out])
          exact bodyPost_ret (v := cutV _) (by simp [results, Tryz.results114, go_sem, cutV]; try rfl) rfl ⟨rfl, 0, rfl⟩
        · rw [if_neg (by
            rintro (h | h | ⟨h, h'⟩)
            · exact h (by rw [he])
            · exact b2 h
            · exact b3 ⟨h, by rw [Option.some.inj h']; rfl⟩)] at HCUT
          have hd : (List.drop (k + 1) s.data.toList).length = s.size - (k + 1) := by simp
          rw [hd] at HCUT
          -- the last tests
          have rest : (1 < k ∧ ((s[0].toNat : Int) == 48) = false) ∨ k ≤ 1 := by
            by_cases h : 1 < k
            · exact Or.inl ⟨h, by rw [beq_eq_false_iff_ne]; intro h'; exact b3 ⟨h, by omega⟩⟩
            · exact Or.inr (by omega)
          clear b3 he b1
          by_cases c1 : s.size - (k + 1) < n + 1
          · rw [if_pos c1] at HCUT
            subst HCUT
            clear hge hd
            rcases rest with ⟨r1, r2⟩ | r1
            all_goals
              go_enter Tryz.func114, Tryz.ntmps114
              go_wp2_with ((with_reducible refine (length_any _ _ hs).mono ?_); rintro e w' ⟨rfl, rfl⟩; rw [HK.out, HN.out])
              exact bodyPost_ret (v := cutV _) (by simp [results, Tryz.results114, go_sem, cutV]; try rfl) rfl ⟨rfl, 0, rfl⟩
          · rw [if_neg c1] at HCUT
            have c2 : k + 1 + n < s.size := by omega
            rw [List.getElem?_drop, hge _ c2] at HCUT
            have c3 : n < (s.extract (k + 1) s.size).size := by simp; omega
            have hx : (s.extract (k + 1) s.size)[n] = s[k + 1 + n] := ByteArray.getElem_extract _
            by_cases d1 : s[k + 1 + n].toNat = 44
            · have he : s[k + 1 + n] = 44 := UInt8.toNat_inj.1 d1
              have D1 : (((s.extract (k + 1) s.size)[n].toNat : Int) != 44) = false := by rw [hx]; simp [d1]
              rw [if_neg (by rw [he]; simp)] at HCUT
              subst HCUT
              clear hge he d1 hd hx
              have E1 := Lib.hid (ba_eq (a := (s.extract (k + 1) s.size).extract 0 n) (l := List.take n (List.drop (k + 1) s.data.toList)) (by simp; omega))
              have E2 := Lib.hid (ba_eq (a := (s.extract (k + 1) s.size).extract (n + 1) (s.size - (k + 1))) (l := List.drop (n + 1) (List.drop (k + 1) s.data.toList)) (by simp; exact List.take_of_length_le (by simp; omega)))
              rcases rest with ⟨r1, r2⟩ | r1
              all_goals
                go_enter Tryz.func114, Tryz.ntmps114
                go_wp2_with ((with_reducible refine (length_any _ _ hs).mono ?_); rintro e w' ⟨rfl, rfl⟩; rw [HK.out, HN.out])
                go_quiet (fail)
                go_wp2
                rw [E1.out, E2.out]
                exact bodyPost_ret (v := cutV _) (by simp [results, Tryz.results114, go_sem, cutV]; try rfl) rfl ⟨rfl, nq, rfl⟩
            · have D1 : (((s.extract (k + 1) s.size)[n].toNat : Int) != 44) = true := by rw [hx, bne_iff_ne]; omega
              rw [if_pos (by
                intro h
                exact d1 (by rw [Option.some.inj h]; rfl))] at HCUT
              subst HCUT
              clear hge d1 hd hx
              rcases rest with ⟨r1, r2⟩ | r1
              all_goals
                go_enter Tryz.func114, Tryz.ntmps114
                go_wp2_with ((with_reducible refine (length_any _ _ hs).mono ?_); rintro e w' ⟨rfl, rfl⟩; rw [HK.out, HN.out])
                exact bodyPost_ret (v := cutV _) (by simp [results, Tryz.results114, go_sem, cutV]; try rfl) rfl ⟨rfl, 0, rfl⟩
    · have B1 : ((s[k].toNat : Int) != 58) = true := by rw [bne_iff_ne]; omega
      have hne : s[k] ≠ 58 := fun h => b1 (by rw [h]; rfl)
      rw [if_pos (Or.inl (by simpa using hne))] at HCUT
      subst HCUT
      clear hge hne b1
      go_enter Tryz.func114, Tryz.ntmps114
      go_wp2_with ((with_reducible refine (length_any _ _ hs).mono ?_); rintro e w' ⟨rfl, rfl⟩; rw [HK.out, HN.out])
      exact bodyPost_ret (v := cutV _) (by simp [results, Tryz.results114, go_sem, cutV]; try rfl) rfl ⟨rfl, 0, rfl⟩
end Go.Proofs.YtabcobadglgfkaaGreatDoor

/- The reader's next text, call by call. -/
namespace Go.Proofs.YtabcobadglgfkaaGreatDoor
open Go.RowKit

/-- What the next text is, whether there is one, and the reader behind it. -/
def nextS (r : List UInt8 × Int) : List UInt8 × Bool × (List UInt8 × Int) :=
  if r.2 ≠ 0 then ([], false, r) else if (M.cut r.1).2.2 ≠ 0 then ([], false, ([], (M.cut r.1).2.2)) else ((M.cut r.1).1, true, ((M.cut r.1).2.1, 0))

set_option maxHeartbeats 400000 in
theorem next_nil (w : World) :
    Calls Tryz.prog 85 #[.pointer none] w fun e w' => e = .returned (.tuple #[.string ⟨⟨[]⟩⟩, .bool false]) ∧ w' = w := by
  go_enter Tryz.func85, Tryz.ntmps85
  go_wp2
  go_ret2
  exact ⟨rfl, rfl⟩

set_option maxHeartbeats 1000000 in
theorem next_any (b : Nat) (r : List UInt8 × Int) (w : World) (h : Rd w b r) (hs : r.1.length ≤ maxLen) :
    Calls Tryz.prog 85 #[.pointer (some ⟨b, 0, none⟩)] w fun e w' => e = .returned (.tuple #[.string ⟨⟨(nextS r).1⟩⟩, .bool (nextS r).2.1]) ∧ Rd w' b (nextS r).2.2 ∧ Keep (· = b) w w' := by
  obtain ⟨l, x⟩ := r
  have h0 := Blk.cellN h 0 rfl
  have h1 := Blk.cellN h 1 rfl
  have f0 := Blk.free h 0
  have f1 := Blk.free h 1
  have hB : Blk w b #[.string ⟨⟨l⟩⟩, .int .i64 x] 116 := h
  by_cases he : x = 0
  · subst he
    have hcut := cut_any ⟨⟨l⟩⟩ w (by simpa [ByteArray.size] using hs)
    rw [ba_list] at hcut
    have hS : nextS (l, 0) = if (M.cut l).2.2 ≠ 0 then ([], false, ([], (M.cut l).2.2)) else ((M.cut l).1, true, ((M.cut l).2.1, 0)) := by simp [nextS]
    rw [hS]
    generalize hc : M.cut l = c at *
    obtain ⟨t, rest, err⟩ := c
    clear hc hS
    have HC := Lib.hid hcut
    clear hcut
    by_cases herr : err = 0
    · subst herr
      go_enter Tryz.func85, Tryz.ntmps85
      go_wp2_with ((with_reducible refine HC.out.mono ?_); rintro e w' ⟨rfl, n, rfl⟩; simp only [cutV])
      go_ret2
      exact ⟨rfl, Blk.set (Blk.drewN h n) 0 _, ((Keep.refl _ _).drewN n).set1 0 _⟩
    · have he' : (err != 0) = true := by simpa using herr
      go_enter Tryz.func85, Tryz.ntmps85
      go_wp2_with (first | ((with_reducible refine HC.out.mono ?_); rintro e w' ⟨rfl, n, rfl⟩; simp only [cutV]) | ((with_reducible refine (fail_any b _ _ err _ (Blk.drewN hB _)).mono ?_); rintro e w' ⟨rfl, h', k'⟩))
      go_ret2
      exact ⟨rfl, h', ((Keep.refl _ _).drewN _).trans k'⟩
  · have he' : (x != 0) = true := by simpa using he
    have hS : nextS (l, x) = ([], false, (l, x)) := by simp [nextS, he]
    rw [hS]
    go_enter Tryz.func85, Tryz.ntmps85
    go_wp2
    go_ret2
    exact ⟨rfl, h, Keep.refl _ _⟩

set_option maxHeartbeats 400000 in
theorem text_nil (w : World) :
    Calls Tryz.prog 86 #[.pointer none] w fun e w' => e = .returned (.string ⟨⟨[]⟩⟩) ∧ w' = w := by
  go_enter Tryz.func86, Tryz.ntmps86
  go_wp2_with ((with_reducible refine (next_nil _).mono ?_); rintro e w' ⟨rfl, rfl⟩)
  go_ret
  exact ⟨rfl, rfl⟩

set_option maxHeartbeats 400000 in
theorem text_any (b : Nat) (r : List UInt8 × Int) (w : World) (h : Rd w b r) (hs : r.1.length ≤ maxLen) :
    Calls Tryz.prog 86 #[.pointer (some ⟨b, 0, none⟩)] w fun e w' => e = .returned (.string ⟨⟨(nextS r).1⟩⟩) ∧ Rd w' b (nextS r).2.2 ∧ Keep (· = b) w w' := by
  generalize hn : nextS r = n
  obtain ⟨t, ok, r'⟩ := n
  have HN := next_any b r w h hs
  rw [hn] at HN
  have HN' := Lib.hid HN
  clear HN hn
  go_enter Tryz.func86, Tryz.ntmps86
  go_wp2_with ((with_reducible refine HN'.out.mono ?_); rintro e w' ⟨rfl, h', k'⟩)
  go_ret
  exact ⟨rfl, h', k'⟩
end Go.Proofs.YtabcobadglgfkaaGreatDoor

/- What a text, a number, and a list are, packed. -/
namespace Go.Proofs.YtabcobadglgfkaaGreatDoor
open Go.RowKit


theorem old_grow (w : World) (k : Nat) (os : Array Obj) : Old w (Sort.grow (w.drewN k) os) :=
  ⟨rfl, rfl, rfl, by simp [Sort.grow, World.drewN], fun i hi => by simp only [Sort.grow, World.drewN]; rw [Array.getElem?_append_left hi]⟩

theorem itoa_any (n : Int) (h0 : -9223372036854775808 ≤ n) (h1 : n ≤ 9223372036854775807) (w : World) (ht : Tab w) :
    Calls Tryz.prog 147 #[.int .i64 n] w fun e w' => e = .returned (.string ⟨⟨Lib.itoa n⟩⟩) ∧ Old w w' :=
  (Tryz.strconv_Itoa n h0 h1 w ht).mono (by rintro e w' ⟨rfl, k, os, rfl⟩; exact ⟨rfl, old_grow w k os⟩)

set_option maxHeartbeats 400000 in
theorem ptext_any (s : ByteArray) (w : World) (ht : Tab w) (hs : s.size ≤ 9223372036854775000) :
    Calls Tryz.prog 112 #[.string s] w fun e w' => e = .returned (.string ⟨⟨M.pack s.data.toList⟩⟩) ∧ Old w w' := by
  have hl := Lib.itoa_length_le (s.size : Int) (by omega) (by omega)
  generalize hi : Lib.itoa (s.size : Int) = it at *
  have HI := Lib.hid hi
  clear hi
  go_enter Tryz.func112, Tryz.ntmps112
  go_wp2_with ((with_reducible refine (itoa_any _ (by omega) (by omega) _ ht).mono ?_); rintro e w' ⟨rfl, ho⟩; rw [HI.out])
  go_ret
  refine ⟨ret_str (ba_eq ?_), ho⟩
  have : ((s.data.toList.length : Nat) : Int) = s.size := by simp
  simp only [M.pack, this, HI.out]
  simp
end Go.Proofs.YtabcobadglgfkaaGreatDoor

/- What a list is, packed. -/
namespace Go.Proofs.YtabcobadglgfkaaGreatDoor
open Go.RowKit

abbrev vstr (s : List UInt8) : Value := .string ⟨⟨s⟩⟩

set_option maxHeartbeats 1000000 in
theorem plist_any (v : Value) (l : List (List UInt8)) (B0 : Nat) (w : World) (ht : Tab w) (hv : Sl B0 w v (l.map vstr)) (hB0 : B0 ≤ w.heap.size) (hl : l.length ≤ maxLen) (hsum : (M.packs l).length ≤ 140737488355328)
    (heach : ∀ s, s ∈ l → s.length ≤ 9223372036854775000) :
    Calls Tryz.prog 81 #[v] w fun e w' => e = .returned (.string ⟨⟨M.pack (M.packs l)⟩⟩) ∧ Old w w' := by
  unfold maxLen at hl
  obtain ⟨p, cap, rfl, _, hx⟩ := hv
  have hlen : (l.map vstr).length = l.length := by simp
  rw [hlen] at hx ⊢
  have hnew := Bld.fresh w w.heap.size (Nat.le_refl _)
  go_enter Tryz.func81, Tryz.ntmps81
  go_wp2
  go_loopw [8] (fun i wr => ∃ k : Nat, k ≤ l.length ∧ i = .int .i64 k ∧ Bld wr w.heap.size w.heap.size (M.packs (l.take k)) ∧ Old w wr) (fun i _ => l.length - (intOf i).toNat)
  case atStart => exact ⟨0, Nat.zero_le _, rfl, hnew, Old.alloc _ _⟩
  case round =>
    obtain ⟨k, hk, rfl, hb, ho⟩ := hrel
    by_cases hlt : k < l.length
    · obtain ⟨b, off, rfl, hbB, hc⟩ := hx (by intro h; have := congrArg List.length h; simp at this; subst this; simp at hlt)
      have hc0 := hc k hlt
      have hcell : wr.cell? ⟨b, off + k, none⟩ = some (.string ⟨⟨l[k]⟩⟩) := by
        rw [ho.cell (p := ⟨b, off + k, none⟩) (by show b < _; omega), hc0]; simp [hlt]
      clear hc hc0 hx hnew
      have hk1 : l.take (k + 1) = l.take k ++ [l[k]] := List.take_succ_eq_append_getElem hlt
      have hp1 : M.packs (l.take (k + 1)) = M.packs (l.take k) ++ M.pack l[k] := by rw [hk1, M.packs_snoc]
      have hle := M.packs_take l (k + 1)
      rw [hp1, List.length_append] at hle
      have he := heach l[k] (List.getElem_mem _)
      have HP := Lib.hid hp1
      clear hk1 hp1
      have HT := Lib.hid (ptext_any ⟨⟨l[k]⟩⟩ wr (ht.old ho) he)
      have hsz := ho.size
      have HW := Lib.hid (fun w1 (h1 : Old wr w1) => writeString_any w.heap.size w.heap.size (M.packs (l.take k)) ⟨⟨M.pack l[k]⟩⟩ w1 (hb.old h1) (Nat.le_trans hle hsum) (Nat.le_trans hsz h1.size))
      go_wp2_with (first
        | ((with_reducible refine HT.out.mono ?_); rintro e w1 ⟨rfl, ho1⟩)
        | ((with_reducible refine (HW.out _ ho1).mono ?_); rintro e w2 ⟨rfl, hb2, ho2, _⟩))
      go_roundw
      case rel => exact ⟨k + 1, by omega, by go_num, by rw [HP.out]; exact hb2, (Below.trans ho (ho1.mono hsz)).trans ho2⟩
      case measure => simp [intOf]; omega
    · obtain rfl : k = l.length := by omega
      rw [List.take_length] at hb
      have hsz := ho.size
      have HS := Lib.hid (bstring_any w.heap.size w.heap.size _ _ hb hsz)
      have HT := Lib.hid (fun w1 (h1 : Below w.heap.size wr w1) => ptext_any ⟨⟨M.packs l⟩⟩ w1 (ht.old (Below.trans ho h1)) (Nat.le_trans (show (M.packs l).length ≤ _ from hsum) (by decide)))
      clear hb hx hnew
      go_wp2_with (first
        | ((with_reducible refine HS.out.mono ?_); rintro e w1 ⟨rfl, _, ho1, _⟩)
        | ((with_reducible refine (HT.out _ ho1).mono ?_); rintro e w2 ⟨rfl, ho2⟩))
      go_ret
      exact ⟨rfl, (Below.trans ho ho1).trans (ho2.mono (Nat.le_trans hsz ho1.size))⟩
end Go.Proofs.YtabcobadglgfkaaGreatDoor

/- The reader's next number. -/
namespace Go.Proofs.YtabcobadglgfkaaGreatDoor
open Go.RowKit

/-- What the next number is, and the reader behind it. -/
def numS (r : List UInt8 × Int) : Int × (List UInt8 × Int) :=
  if (nextS r).2.1 = false then (0, (nextS r).2.2) else match M.parse (nextS r).1 with
    | some v => (v, (nextS r).2.2)
    | none => (0, ([], 11))

theorem cut_len (l : List UInt8) : (M.cut l).1.length ≤ l.length ∧ (M.cut l).2.1.length ≤ l.length := by
  unfold M.cut
  simp only
  split
  · simp
  · split
    · simp
    · split
      · simp
      · split
        · simp
        · simp; omega
theorem nextS_len (r : List UInt8 × Int) : (nextS r).1.length ≤ r.1.length ∧ (nextS r).2.2.1.length ≤ r.1.length := by
  unfold nextS
  split
  · simp
  · split
    · simp
    · exact cut_len r.1

end Go.Proofs.YtabcobadglgfkaaGreatDoor

/- The reader's next list. -/
namespace Go.Proofs.YtabcobadglgfkaaGreatDoor
open Go.RowKit

/-- What the next list is, and the reader behind it. -/
def listS (r : List UInt8 × Int) : List (List UInt8) × (List UInt8 × Int) :=
  if (nextS r).2.1 = false then ([], (nextS r).2.2) else match M.unpk (nextS r).1 with
    | some l => (l, (nextS r).2.2)
    | none => ([], ([], 11))

/-- What has been taken of t, and the reader that stands behind it. -/
def Taken (t : List UInt8) (acc : List (List UInt8)) (r : List UInt8 × Int) : Prop :=
  (r.2 = 0 ∧ M.unpk t = (M.unpk r.1).map (acc ++ ·) ∧ acc.length + r.1.length ≤ t.length) ∨ (r.2 ≠ 0 ∧ r.1 = [] ∧ M.unpk t = none ∧ acc.length ≤ t.length + 1)
theorem Taken.start (t : List UInt8) : Taken t [] (t, 0) := Or.inl ⟨rfl, by simp, by simp⟩
theorem Taken.step {t : List UInt8} {acc : List (List UInt8)} {r : List UInt8 × Int} (h : Taken t acc r) (hne : r.1 ≠ []) :
    Taken t (acc ++ [(nextS r).1]) (nextS r).2.2 ∧ (nextS r).2.2.1.length < r.1.length ∧ acc.length ≤ t.length := by
  rcases h with ⟨h0, h1, h2⟩ | ⟨_, h1, _⟩
  · obtain ⟨l, x⟩ := r
    simp only at h0 h1 h2 hne
    subst h0
    have hpos : 0 < l.length := List.length_pos_iff.2 hne
    by_cases hc : (M.cut l).2.2 = 0
    · have e : nextS (l, 0) = ((M.cut l).1, true, ((M.cut l).2.1, 0)) := by simp [nextS, hc]
      have hs := M.cut_shorter hc
      rw [e]
      refine ⟨Or.inl ⟨rfl, ?_, ?_⟩, by simpa using by omega, by omega⟩
      · rw [h1, M.unpk_ok hc, Option.map_map]
        congr 1; funext x; simp
      · simp; omega
    · have e : nextS (l, 0) = ([], false, ([], (M.cut l).2.2)) := by simp [nextS, hc]
      rw [e]
      refine ⟨Or.inr ⟨hc, rfl, ?_, ?_⟩, by simpa using hpos, by omega⟩
      · rw [h1, M.unpk_bad hne hc]; rfl
      · simp; omega
  · exact absurd h1 hne

def restLen (w : World) (b : Nat) : Nat := match w.cell? ⟨b, 0, none⟩ with | some (.string s) => s.size | _ => 0
theorem Rd.len {w : World} {b : Nat} {r : List UInt8 × Int} (h : Rd w b r) : restLen w b = r.1.length := by
  unfold restLen
  rw [Blk.cellN h 0 rfl]
  rfl

theorem infoString : (Tryz.prog.info? 9).map (fun i => (i.zero, i.size, i.bytes)) = some (some (.string ⟨#[]⟩), 1, 16) := by kernel_rfl

/-- What the next list leaves. -/
def ListPost (b : Nat) (x : List (List UInt8) × (List UInt8 × Int)) (w : World) (e : Ending) (w' : World) : Prop :=
  ∃ v, e = .returned v ∧ Sl w'.heap.size w' v (x.1.map vstr) ∧ (∀ g, v.ownBlock = some g → w.heap.size ≤ g) ∧ Rd w' b x.2 ∧ Keep (· = b) w w'

theorem ListPost.nil {b : Nat} {r : List UInt8 × Int} {w w' : World} (h : Rd w' b r) (k : Keep (· = b) w w') : ListPost b ([], r) w (.returned (.slice none 0 0)) w' :=
  ⟨_, rfl, ⟨none, 0, rfl, fun _ => rfl, fun h => absurd rfl h⟩, fun g hg => (by cases hg), h, k⟩

set_option maxHeartbeats 400000 in
theorem rlist_nil (w : World) :
    Calls Tryz.prog 47 #[.pointer none] w fun e w' => e = .returned (.slice none 0 0) ∧ w' = w := by
  go_enter Tryz.func47, Tryz.ntmps47
  go_wp2_with ((with_reducible refine (next_nil _).mono ?_); rintro e w' ⟨rfl, rfl⟩)
  go_ret
  exact ⟨rfl, rfl⟩

set_option maxHeartbeats 1000000 in
set_option maxRecDepth 100000 in
theorem rlist_any (b : Nat) (r : List UInt8 × Int) (w : World) (h : Rd w b r) (hs : r.1.length ≤ 1099511627776) :
    Calls Tryz.prog 47 #[.pointer (some ⟨b, 0, none⟩)] w (ListPost b (listS r) w) := by
  obtain ⟨i0, hi, hz0, hz1, hz2⟩ := info_parts infoString
  have hlen := nextS_len r
  have hN := next_any b r w h (by unfold maxLen; omega)
  unfold listS
  generalize hn : nextS r = n at *
  obtain ⟨t, ok, r'⟩ := n
  simp only at hlen hN ⊢
  clear hn
  have HN := Lib.hid hN
  clear hN
  cases ok with
  | false =>
    simp only [if_true]
    go_enter Tryz.func47, Tryz.ntmps47
    go_wp2_with ((with_reducible refine HN.out.mono ?_); rintro e w1 ⟨rfl, h1, k1⟩)
    go_ret
    exact ListPost.nil h1 k1
  | true =>
    generalize hx : (if true = false then (([], r') : List (List UInt8) × (List UInt8 × Int)) else match M.unpk t with | some l => (l, r') | none => ([], ([], 11))) = x
    rw [if_neg (by simp)] at hx
    have HX := Lib.hid hx
    clear hx
    go_enter Tryz.func47, Tryz.ntmps47
    go_wp2_with (first
      | ((with_reducible refine HN.out.mono ?_); rintro e w1 ⟨rfl, h1, k1⟩)
      | ((with_reducible refine (read_any _ _).mono ?_); rintro e w' ⟨rfl, rfl⟩))
    have hsH := Lib.hid hs
    have hr0 : Rd (w1.alloc (.cells #[.string ⟨⟨t⟩⟩, .int .i64 0] 116)) w1.heap.size (t, 0) := Blk.new w1 _ _
    go_loopw [6] (fun v wr => ∃ acc r2, wr.ownsRow (w1.heap.size + 1) 9 1 v acc.length (acc.map vstr) ∧ Rd wr w1.heap.size r2 ∧ Taken t acc r2 ∧ Old w1 wr) (fun _ wr => restLen wr w1.heap.size)
    case atStart => exact ⟨[], (t, 0), World.ownsRow_nil _ _ _ _, hr0, Taken.start t, Old.alloc _ _⟩
    case round =>
      obtain ⟨acc, r2, hown, hr2, htk, ho⟩ := hrel
      have hL := Lib.hid (show Calls Tryz.prog 46 #[.pointer (some ⟨w1.heap.size, 0, none⟩)] wr (fun e w' => e = .returned (.int .i64 (r2.1.length : Nat)) ∧ w' = wr) from left_any w1.heap.size ⟨⟨r2.1⟩⟩ wr (Blk.cellN hr2 0 rfl))
      have hE := Lib.hid (end_any w1.heap.size r2 wr hr2)
      have hrl := Rd.len hr2
      have hsz := ho.size
      by_cases hne : r2.1 = []
      · have hL0 : ((r2.1.length : Nat) : Int) = 0 := by rw [hne]; rfl
        have hF := Lib.hid (fun (x : Int) => fail_any b ⟨⟨r'.1⟩⟩ r'.2 x wr (Rd.old h1 ho))
        have hh1 := Rd.old h1 ho
        rcases htk with ⟨g0, g1, _⟩ | ⟨g0, g1, g2, _⟩
        · have hend : endOf r2 = 0 := by simp [endOf, g0, hne]
          have hxx : x = (acc, r') := by
            rw [← HX.out, g1, hne, M.unpk_nil]; simp
          subst hxx
          rw [hend] at hE
          have hsl := Sl.of_row (xs := acc.map vstr) (by simpa using hown)
          have hfr := row_from hown
          clear HX hown g0 g1 hr2 hend hrl
          go_wp2_with (first
            | ((with_reducible refine hL.out.mono ?_); rintro e w' ⟨rfl, rfl⟩)
            | ((with_reducible refine hE.out.mono ?_); rintro e w' ⟨rfl, rfl⟩))
          go_ret
          exact ⟨_, rfl, hsl, fun g hg => Nat.le_trans k1.size (Nat.le_of_succ_le (hfr g hg)), hh1, k1.trans (Keep.of_old ho)⟩
        · have hend : endOf r2 = r2.2 := by simp [endOf, g0]
          have hxx : x = ([], ([], 11)) := by rw [← HX.out, g2]
          subst hxx
          rw [hend] at hE
          have hbad : (r2.2 != 0) = true := by simpa using g0
          clear HX hown g0 g1 g2 hr2 hend hrl
          go_wp2_with (first
            | ((with_reducible refine hL.out.mono ?_); rintro e w' ⟨rfl, rfl⟩)
            | ((with_reducible refine hE.out.mono ?_); rintro e w' ⟨rfl, rfl⟩)
            | ((with_reducible refine (hF.out _).mono ?_); rintro e w2 ⟨rfl, h2, k2⟩))
          go_ret
          exact ListPost.nil h2 ((k1.trans (Keep.of_old ho)).trans k2)
      · have hst := htk.step hne
        have hpos : 0 < r2.1.length := List.length_pos_iff.2 hne
        have hle : r2.1.length ≤ 1099511627776 := by
          rcases htk with ⟨_, _, g⟩ | ⟨_, g, _⟩
          · omega
          · exact absurd g hne
        have hT := Lib.hid (text_any w1.heap.size r2 wr hr2 (by unfold maxLen; omega))
        have hbound : acc.length + 1 ≤ 2199023255552 := by have := hst.2.2; omega
        have HB := Lib.hid hbound
        have HST := Lib.hid hst
        clear hst hne htk hle hbound hs hlen
        go_wp2_with (first
          | (at_builtin; refine wpList_append_own _ rfl _ _ 43 rfl (w1.heap.size + 1) 9 i0 (.string ⟨#[]⟩) 1 16 Tryz.underlying43 hi hz0 hz1 hz2 rfl (by decide) _ _ _ rfl (hown3.alloc _) ⟨w3.heap.size, 0, none⟩ 1 1 [vstr (nextS r2).1] rfl rfl ?c1 ?c2 ?c3 ?c4 ?c5 ?_)
          | ((with_reducible refine hL.out.mono ?_); rintro e w' ⟨rfl, rfl⟩)
          | ((with_reducible refine hT.out.mono ?_); rintro e w3 ⟨rfl, h3, k3⟩; have hown3 := row_keep hown k3 (fun g hg => by omega)))
        case c1 => intro j u hj; match j, hj with | 0, hj => simp at hj; subst hj; simp [Addr.add]
        case c2 => intro u hu; simp at hu; subst hu; rfl
        case c3 => have := HB.out; unfold maxLen; omega
        case c4 => have := HB.out; omega
        case c5 => have := k3.size; have := hr2.lt; simp; omega
        intro v' w4 hown4 hgrow _
        have hne : u6.ownBlock ≠ some w1.heap.size := fun hg => by have := row_from hown _ hg; omega
        have h4 : Rd w4 w1.heap.size (nextS r2).2.2 := Blk.grown (Blk.alloc h3 _) hgrow hne
        have hrl4 := Rd.len h4
        have ho4 : Old w1 w4 := by
          refine Keep.below (S := fun k => w1.heap.size ≤ k) ?_ (Nat.le_refl _) (fun k hk => by omega)
          refine (((Keep.of_old ho).trans (k3.mono (fun k _ hk => by omega))).alloc _).grown hgrow (fun k hk => ?_)
          exact Or.inl (Nat.le_of_succ_le (row_from hown3 k hk))
        go_wp2
        go_roundw
        case rel => exact ⟨acc ++ [(nextS r2).1], (nextS r2).2.2, by simpa using hown4, h4, HST.out.1, ho4⟩
        case measure => rw [hrl4, hrl]; exact HST.out.2.1
end Go.Proofs.YtabcobadglgfkaaGreatDoor

/- The chapter's examples hold. -/
namespace Go.Proofs.YtabcobadglgfkaaGreatDoor
open Go.RowKit

theorem itoa1 (n : Nat) (h : n < 10) : Lib.itoa (n : Int) = [UInt8.ofNat (48 + n)] := by rw [M.itoa_nat, M.dec_small h]
theorem ex_text (w : World) (ht : Tab w) : Calls Tryz.prog 112 #[.string ⟨#[97, 98, 99]⟩] w fun e w' => e = .returned (.string ⟨#[51, 58, 97, 98, 99, 44]⟩) ∧ Old w w' := by
  refine (ptext_any ⟨#[97, 98, 99]⟩ w ht (by decide)).mono ?_
  rintro e w' ⟨rfl, ho⟩
  refine ⟨ret_str (ba_inj ?_), ho⟩
  show M.pack [97, 98, 99] = _
  unfold M.pack
  rw [show (([97, 98, 99] : List UInt8).length : Int) = ((3 : Nat) : Int) from rfl, itoa1 3 (by decide)]
  rfl
theorem ex_empty (w : World) (ht : Tab w) : Calls Tryz.prog 112 #[.string ⟨#[]⟩] w fun e w' => e = .returned (.string ⟨#[48, 58, 44]⟩) ∧ Old w w' := by
  refine (ptext_any ⟨#[]⟩ w ht (by decide)).mono ?_
  rintro e w' ⟨rfl, ho⟩
  refine ⟨ret_str (ba_inj ?_), ho⟩
  show M.pack [] = _
  unfold M.pack
  rw [show (([] : List UInt8).length : Int) = ((0 : Nat) : Int) from rfl, itoa1 0 (by decide)]
  rfl
theorem ex_packs : M.packs [[97], []] = [49, 58, 97, 44, 48, 58, 44] := by
  unfold M.packs M.pack
  simp only [List.map_cons, List.map_nil]
  rw [show (([97] : List UInt8).length : Int) = ((1 : Nat) : Int) from rfl, itoa1 1 (by decide), show (([] : List UInt8).length : Int) = ((0 : Nat) : Int) from rfl, itoa1 0 (by decide)]
  rfl
theorem ex_list (v : Value) (B : Nat) (w : World) (ht : Tab w) (hv : Sl B w v [vstr [97], vstr []]) (hB : B ≤ w.heap.size) :
    Calls Tryz.prog 81 #[v] w fun e w' => e = .returned (.string ⟨#[55, 58, 49, 58, 97, 44, 48, 58, 44, 44]⟩) ∧ Old w w' := by
  refine (plist_any v [[97], []] B w ht hv hB (by decide) (by rw [ex_packs]; decide) (by intro s hs; simp at hs; rcases hs with rfl | rfl <;> decide)).mono ?_
  rintro e w' ⟨rfl, ho⟩
  refine ⟨ret_str (ba_inj ?_), ho⟩
  rw [ex_packs]
  show M.pack [49, 58, 97, 44, 48, 58, 44] = _
  unfold M.pack
  rw [show (([49, 58, 97, 44, 48, 58, 44] : List UInt8).length : Int) = ((7 : Nat) : Int) from rfl, itoa1 7 (by decide)]
  rfl
theorem ex_n1 : nextS ([48, 49, 58, 97, 44], 0) = ([], false, ([], 11)) := by decide
theorem ex_n2 : nextS ([51, 58, 97, 98], 0) = ([], false, ([], 10)) := by decide
theorem ex_n3 : nextS ([49, 58, 97, 59], 0) = ([], false, ([], 11)) := by decide

end Go.Proofs.YtabcobadglgfkaaGreatDoor

/- The document's answer, its small parts: the digits of a number, a text, a number and a list, packed. -/
namespace Go.Proofs.YtabcobadglgfkaaGreatDoor
open Go.RowKit

set_option maxHeartbeats 1000000 in
set_option maxRecDepth 100000 in
theorem digits_small (u : Nat) (hu : u < 10) (w : World) :
    Calls Tryz.prog 148 #[.int .i64 u] w fun e w' => e = .returned (.string ⟨⟨Lib.decDigits u⟩⟩) ∧ Old w w' := by
  rw [M.dec_small hu]
  have hc := M.ofNat_toNat hu
  generalize UInt8.ofNat (48 + u) = c at *
  have hconv := conv_one c (48 + u) (by omega)
  clear hc
  go_enter Tryz.func148, Tryz.ntmps148
  go_wp2
  go_ret
  exact ⟨rfl, Old.alloc _ _⟩

set_option maxHeartbeats 2000000 in
set_option maxRecDepth 100000 in
theorem digits_big (u : Nat) (hu : ¬ u < 10) (hmax : (u : Int) ≤ 9223372036854775807)
    (ih : ∀ w : World, Calls Tryz.prog 148 #[.int .i64 ((u / 10 : Nat) : Int)] w fun e w' => e = .returned (.string ⟨⟨Lib.decDigits (u / 10)⟩⟩) ∧ Old w w') (w : World) :
    Calls Tryz.prog 148 #[.int .i64 u] w fun e w' => e = .returned (.string ⟨⟨Lib.decDigits u⟩⟩) ∧ Old w w' := by
  have hc := M.ofNat_toNat (d := u % 10) (by omega)
  rw [M.dec_big hu]
  have hl := M.dec_len (u / 10) 19 (by omega) (by omega)
  generalize UInt8.ofNat (48 + u % 10) = c at *
  generalize Lib.decDigits (u / 10) = d at *
  have hconv := conv_one c (48 + (u : Int) % 10) (by omega)
  have hu' : 10 ≤ u := by omega
  have hq : ((u / 10 : Nat) : Int) = (u : Int) / 10 := by omega
  rw [hq] at ih
  have HI := Lib.hid ih
  have w1 : IntKind.i64.wrap ((u : Int) / 10) = (u : Int) / 10 := IntWalk.i64_in _ (by omega)
  have w2 : (u : Int).tmod 10 = (u : Int) % 10 := Int.tmod_eq_emod_of_nonneg (by omega)
  have w3 : IntKind.i64.wrap (48 + (u : Int) % 10) = 48 + (u : Int) % 10 := IntWalk.i64_in _ (by omega)
  have w4 : IntKind.u8.wrap (48 + (u : Int) % 10) = 48 + (u : Int) % 10 := IntWalk.u8_in _ (by omega)
  clear ih hu hc hq
  go_enter Tryz.func148, Tryz.ntmps148
  go_wp2
  go_region_with ((with_reducible refine (HI.out _).mono ?_); rintro e w' ⟨rfl, ho⟩; try (have hcell : w'.cell? ⟨w.heap.size, 0, none⟩ = some (.int .u8 (48 + (u : Int) % 10)) := (Blk.old (show Blk ((w.alloc (.cells #[.int .u8 (48 + (u : Int) % 10)] 5)).drew) w.heap.size #[.int .u8 (48 + (u : Int) % 10)] 5 from Blk.new _ _ _) ho).cellN 0 rfl))
  all_goals
    go_wp2
    go_ret
    first
      | exact ⟨ret_str (ba_eq (by simp)), ((Below.drew (Below.refl _ w)).trans ho).trans ((Old.alloc w' _).mono ho.size)⟩
      | exact ⟨ret_str (ba_eq (by simp)), (Below.drew (Old.alloc w (.cells #[.int .u8 (48 + (u : Int) % 10)] 5))).trans (ho.mono (by simp))⟩

theorem digits_pos (u : Nat) : (u : Int) ≤ 9223372036854775807 → ∀ w : World,
    Calls Tryz.prog 148 #[.int .i64 u] w fun e w' => e = .returned (.string ⟨⟨Lib.decDigits u⟩⟩) ∧ Old w w' := by
  refine M.dec_ind (p := fun u => (u : Int) ≤ 9223372036854775807 → ∀ w : World, Calls Tryz.prog 148 #[.int .i64 u] w fun e w' => e = .returned (.string ⟨⟨Lib.decDigits u⟩⟩) ∧ Old w w') ?_ ?_ u
  · intro u hu _ w
    exact digits_small u hu w
  · intro u hu ih hmax w
    exact digits_big u hu hmax (ih (by omega)) w

/-- The digits ahead of what stands. -/
def headD (m : Nat) : List UInt8 := if m = 0 then [] else Lib.decDigits m
theorem headD_step {m : Nat} (h : m ≠ 0) : headD m = headD (m / 10) ++ [UInt8.ofNat (48 + m % 10)] := by
  unfold headD
  rw [if_neg h]
  by_cases h10 : m < 10
  · rw [M.dec_small h10, if_pos (by omega), Nat.mod_eq_of_lt h10]; rfl
  · rw [M.dec_big h10, if_neg (by omega)]

set_option maxHeartbeats 2000000 in
set_option maxRecDepth 100000 in
theorem digits_neg (u : Nat) (h0 : 0 < u) (hmax : (u : Int) ≤ 9223372036854775808) (w : World) :
    Calls Tryz.prog 148 #[.int .i64 (-(u : Int))] w fun e w' => e = .returned (.string ⟨⟨45 :: Lib.decDigits u⟩⟩) ∧ Old w w' := by
  have hlen := M.dec_len u 20 (by omega) (by omega)
  have hd : headD u = Lib.decDigits u := by unfold headD; rw [if_neg (by omega)]
  generalize Lib.decDigits u = D at *
  have HD := Lib.hid hd
  clear hd
  go_enter Tryz.func148, Tryz.ntmps148
  go_wp2
  go_loopw [0, 3] (fun n s wr => ∃ (m : Nat) (d : List UInt8), n = .int .i64 (-(m : Int)) ∧ s = .string ⟨⟨d⟩⟩ ∧ headD m ++ d = D ∧ m ≤ u ∧ Old w wr) (fun n _ _ => (intOf n).natAbs)
  case atStart => exact ⟨u, [], rfl, rfl, by rw [HD.out]; simp, Nat.le_refl _, Below.refl _ _⟩
  case round =>
    obtain ⟨m, d, rfl, rfl, hD, hm, ho⟩ := hrel
    have hdl : d.length ≤ 20 := by rw [← hD] at hlen; simp at hlen; omega
    by_cases hz : m = 0
    · subst hz
      have hD' : d = D := by simpa [headD] using hD
      subst hD'
      clear hD
      go_wp2
      go_ret
      exact ⟨ret_str (ba_eq (by simp)), ho⟩
    · have hc := M.ofNat_toNat (d := m % 10) (by omega)
      rw [headD_step hz] at hD
      generalize UInt8.ofNat (48 + m % 10) = c at *
      have HD2 := Lib.hid hD
      clear hD
      have hconv := conv_one c (48 - -((m : Int) % 10)) (by omega)
      have hne : ((-(m : Int)) != 0) = true := by rw [bne_iff_ne]; omega
      clear hc
      go_wp2
      go_roundw
      case rel => exact ⟨m / 10, c :: d, by congr 1, congrArg Value.string (ba_eq (by simp)), by rw [← HD2.out]; simp, by omega, Below.trans ho ((Old.alloc wr _).mono ho.size)⟩
      case measure => simp [intOf]; omega

theorem digits_any (n : Int) (h0 : -9223372036854775808 ≤ n) (h1 : n ≤ 9223372036854775807) (w : World) :
    Calls Tryz.prog 148 #[.int .i64 n] w fun e w' => e = .returned (.string ⟨⟨Lib.itoa n⟩⟩) ∧ Old w w' := by
  unfold Lib.itoa
  by_cases h : n < 0
  · rw [if_pos h]
    have e : n = -((n.natAbs : Nat) : Int) := by omega
    have := digits_neg n.natAbs (by omega) (by omega) w
    rw [← e] at this
    exact this
  · rw [if_neg h]
    have e : n = ((n.toNat : Nat) : Int) := by omega
    have := digits_pos n.toNat (by omega) w
    rw [← e] at this
    exact this

set_option maxHeartbeats 400000 in
theorem rtext_any (s : ByteArray) (w : World) (hs : s.size ≤ 9223372036854775000) :
    Calls Tryz.prog 113 #[.string s] w fun e w' => e = .returned (.string ⟨⟨M.pack s.data.toList⟩⟩) ∧ Old w w' := by
  have hl := M.itoa_len20 (s.size : Int) (by omega) (by omega)
  have HI := Lib.hid (digits_any (s.size : Int) (by omega) (by omega) w)
  have hp : M.pack s.data.toList = Lib.itoa (s.size : Int) ++ 58 :: s.data.toList ++ [44] := by
    have : ((s.data.toList.length : Nat) : Int) = s.size := by simp
    simp only [M.pack, this]
  rw [hp]
  generalize Lib.itoa (s.size : Int) = it at *
  clear hp
  go_enter Tryz.func113, Tryz.ntmps113
  go_wp2_with ((with_reducible refine HI.out.mono ?_); rintro e w' ⟨rfl, ho⟩)
  go_ret
  exact ⟨ret_str (ba_eq (by simp)), ho⟩

end Go.Proofs.YtabcobadglgfkaaGreatDoor
