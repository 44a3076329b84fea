/- What paths, names and sets of files are, in plain words on lists of bytes. Nothing of the program stands here. -/
import Derived.Test.YtcmbmbdjdkldoaaDoorBase
import Derived.Lib.Split
import Derived.Lib.IndexMore
namespace Go.Proofs.YtcmbmbdjdkldoaaDoor.M
open Go.Lib

/-- A file: its path and its data. -/
abbrev Fi := List UInt8 × List UInt8

abbrev bl (a b : List UInt8) : Bool := Op.bytesLess a b
theorem bl_nil_right (a : List UInt8) : bl a [] = false := by cases a <;> rfl
theorem bl_cons (a b : UInt8) (x y : List UInt8) : bl (a :: x) (b :: y) = (decide (a < b) || (a == b && bl x y)) := rfl
theorem bl_irrefl : ∀ a : List UInt8, bl a a = false
  | [] => rfl
  | a :: x => by rw [bl_cons, bl_irrefl x]; simp
theorem bl_trans : ∀ {a b c : List UInt8}, bl a b = true → bl b c = true → bl a c = true
  | _, _, [], _, h => by rw [bl_nil_right] at h; cases h
  | _, [], _ :: _, h, _ => by rw [bl_nil_right] at h; cases h
  | [], _ :: _, _ :: _, _, _ => rfl
  | a :: x, b :: y, c :: z, h1, h2 => by
      rw [bl_cons] at h1 h2 ⊢
      simp only [Bool.or_eq_true, decide_eq_true_eq, Bool.and_eq_true, beq_iff_eq] at h1 h2 ⊢
      rcases h1 with h1 | ⟨rfl, h1⟩
      · rcases h2 with h2 | ⟨rfl, h2⟩
        · exact Or.inl (UInt8.lt_trans h1 h2)
        · exact Or.inl h1
      · rcases h2 with h2 | ⟨rfl, h2⟩
        · exact Or.inl h2
        · exact Or.inr ⟨rfl, bl_trans h1 h2⟩
theorem bl_total : ∀ {a b : List UInt8}, bl a b = false → a ≠ b → bl b a = true
  | [], [], _, h => absurd rfl h
  | [], _ :: _, h, _ => by cases h
  | _ :: _, [], _, _ => rfl
  | a :: x, b :: y, h, hne => by
      rw [bl_cons] at h ⊢
      simp only [Bool.or_eq_false_iff, decide_eq_false_iff_not, Bool.and_eq_false_iff, Bool.or_eq_true, decide_eq_true_eq, Bool.and_eq_true, beq_iff_eq] at h ⊢
      by_cases hab : a = b
      · subst hab
        refine Or.inr ⟨rfl, bl_total ?_ (fun e => hne (by rw [e]))⟩
        rcases h.2 with h2 | h2
        · simp at h2
        · exact h2
      · left
        have := h.1
        have h1 : ¬ a.toNat < b.toNat := this
        have h2 : a.toNat ≠ b.toNat := fun e => hab (UInt8.toNat_inj.1 e)
        show b.toNat < a.toNat
        omega
theorem bl_asymm {a b : List UInt8} (h : bl a b = true) : bl b a = false := by
  cases h2 : bl b a with
  | false => rfl
  | true => have := bl_trans h h2; rw [bl_irrefl] at this; cases this
theorem bl_ne {a b : List UInt8} (h : bl a b = true) : a ≠ b := fun e => by rw [e, bl_irrefl] at h; cases h
theorem bl_append : ∀ (x a b : List UInt8), bl (x ++ a) (x ++ b) = bl a b
  | [], _, _ => rfl
  | c :: x, a, b => by rw [List.cons_append, List.cons_append, bl_cons, bl_append x]; simp

def okByte (c : UInt8) : Bool := decide (33 ≤ c.toNat) && decide (c.toNat ≤ 126)
def okPart (p : List UInt8) : Bool := !(p == []) && !(p == [46]) && !(p == [46, 46]) && p.all okByte
/-- Are all parts right, the first of them begun with cur? -/
def scan : List UInt8 → List UInt8 → Bool
  | cur, [] => okPart cur
  | cur, c :: r => if c = 47 then okPart cur && scan [] r else scan (cur ++ [c]) r
def path (s : List UInt8) : Int := if s.length ≤ 48 ∧ scan [] s = true then 0 else 13

theorem scan_none : ∀ (s cur : List UInt8), (∀ c ∈ s, c ≠ 47) → scan cur s = okPart (cur ++ s)
  | [], cur, _ => by rw [List.append_nil]; rfl
  | c :: r, cur, h => by
      rw [scan, if_neg (h c (by simp)), scan_none r _ (fun d hd => h d (by simp [hd]))]
      simp
theorem scan_at : ∀ (a cur r : List UInt8), (∀ c ∈ a, c ≠ 47) → scan cur (a ++ 47 :: r) = (okPart (cur ++ a) && scan [] r)
  | [], cur, r, _ => by rw [List.nil_append, scan, if_pos rfl, List.append_nil]
  | c :: a, cur, r, h => by
      rw [List.cons_append, scan, if_neg (h c (by simp)), scan_at a _ r (fun d hd => h d (by simp [hd]))]
      simp
theorem scan_join : ∀ (a cur x : List UInt8), scan cur (a ++ 47 :: x) = (scan cur a && scan [] x)
  | [], cur, x => by simp [scan]
  | c :: a, cur, x => by
      rw [List.cons_append, scan, scan]
      split
      · rw [scan_join a [] x, Bool.and_assoc]
      · exact scan_join a _ x

theorem index47 (s : List UInt8) : (index s [47] = -1 ∧ (∀ c ∈ s, c ≠ 47)) ∨ ∃ i : Nat, index s [47] = i ∧ i < s.length ∧ (∀ c ∈ s.take i, c ≠ 47) ∧ s = s.take i ++ 47 :: s.drop (i + 1) := by
  rw [index_one]
  by_cases hm : indexByte s 47 = -1
  · left
    refine ⟨hm, fun c hc e => ?_⟩
    obtain ⟨k, hk, rfl⟩ := List.getElem_of_mem hc
    exact indexByte_none hm k (by rw [List.getElem?_eq_getElem hk, e])
  · right
    have h0 := indexByte_ge s 47
    obtain ⟨i, hi⟩ : ∃ i : Nat, indexByte s 47 = i := ⟨(indexByte s 47).toNat, by omega⟩
    obtain ⟨h1, h2⟩ := indexByte_some hi
    have hlt := (List.getElem?_eq_some_iff.1 h1).1
    refine ⟨i, hi, hlt, fun c hc e => ?_, ?_⟩
    · obtain ⟨k, hk, rfl⟩ := List.getElem_of_mem hc
      rw [List.length_take] at hk
      rw [List.getElem_take] at e
      exact h2 k (by omega) (by rw [List.getElem?_eq_getElem (by omega), e])
    · have := List.getElem?_eq_some_iff.1 h1
      conv => lhs; rw [← List.take_append_drop i s, List.drop_eq_getElem_cons hlt, this.2]
theorem parts_all : ∀ (n : Nat) (s : List UInt8), s.length ≤ n → (splitK [47] 0 (count s [47]) s).all okPart = scan [] s
  | n, s, hn => by
      rcases index47 s with ⟨h1, h2⟩ | ⟨i, h1, h2, h3, h4⟩
      · rw [count_miss h1, splitK, scan_none s [] h2]
        simp
      · have hc := count_hit (s := s) (sub := [47]) (by simp) h1
        rw [hc, Nat.add_comm, splitK, if_neg (by rw [h1]; simp), h1]
        conv => rhs; rw [h4, scan_at _ _ _ h3]
        match n with
        | 0 => omega
        | n + 1 =>
          have ih := parts_all n (s.drop (i + 1)) (by simp; omega)
          rw [List.all_cons]
          simp only [Int.toNat_natCast, List.length_singleton, Nat.add_zero, List.nil_append]
          rw [ih]

def nameByte (c : UInt8) : Bool := (decide (97 ≤ c.toNat) && decide (c.toNat ≤ 122)) || (decide (48 ≤ c.toNat) && decide (c.toNat ≤ 57)) || c == 45 || c == 95
def name (s : List UInt8) : Int := if 1 ≤ s.length ∧ s.length ≤ 16 ∧ s.all nameByte = true then 0 else 14

/-- Is p below t? -/
def below (p t : List UInt8) : Bool := decide (t.length + 1 < p.length) && (p[t.length]? == some 47) && (p.take t.length == t)
theorem below_iff (p t : List UInt8) : below p t = true ↔ ∃ x, x ≠ [] ∧ p = t ++ 47 :: x := by
  unfold below
  simp only [Bool.and_eq_true, decide_eq_true_eq, beq_iff_eq]
  constructor
  · rintro ⟨⟨h1, h2⟩, h3⟩
    obtain ⟨hlt, h2⟩ := List.getElem?_eq_some_iff.1 h2
    refine ⟨p.drop (t.length + 1), fun e => ?_, ?_⟩
    · have := congrArg List.length e
      simp at this; omega
    · conv => lhs; rw [← List.take_append_drop t.length p, List.drop_eq_getElem_cons hlt, h2, h3]
  · rintro ⟨x, hx, rfl⟩
    have := List.length_pos_iff.2 hx
    refine ⟨⟨by simp; omega, by simp⟩, by simp⟩
theorem below_ne {p t : List UInt8} (h : below p t = true) : p ≠ t := fun e => by
  obtain ⟨x, hx, rfl⟩ := (below_iff _ _).1 h
  have := congrArg List.length e
  simp at this
theorem below_self (p : List UInt8) : below p p = false := by
  cases h : below p p with
  | false => rfl
  | true => exact absurd rfl (below_ne h)
theorem below_under (p x y : List UInt8) : below (p ++ 47 :: x) (p ++ 47 :: y) = below x y := by
  rw [Bool.eq_iff_iff, below_iff, below_iff]
  constructor
  · rintro ⟨z, hz, h⟩
    exact ⟨z, hz, by simpa [List.append_assoc] using h⟩
  · rintro ⟨z, hz, rfl⟩
    exact ⟨z, hz, by simp⟩

def kin (fs : List Fi) (p : List UInt8) : Bool := fs.any fun g => below p g.1 || below g.1 p
def chk1 (f : Fi) : Int := if path f.1 ≠ 0 then 13 else if f.2.length > 2048 then 15 else 0
def firstErr : List Fi → Int
  | [] => 0
  | f :: r => if chk1 f ≠ 0 then chk1 f else firstErr r
def asc : List Fi → Bool
  | [] => true
  | [_] => true
  | a :: b :: r => bl a.1 b.1 && asc (b :: r)
def check (fs : List Fi) : Int :=
  if firstErr fs ≠ 0 then firstErr fs else if fs.length > 32 then 15 else if asc fs = true ∧ (fs.any fun f => kin fs f.1) = false then 0 else 16

def get (fs : List Fi) (p : List UInt8) : List UInt8 × Bool := match fs.find? (fun f => f.1 == p) with | some f => (f.2, true) | none => ([], false)
def without (fs : List Fi) (p : List UInt8) : List Fi := fs.filter fun f => !(f.1 == p || below f.1 p)
def tail (p : List UInt8) (f : Fi) : Fi := (f.1.drop (p.length + 1), f.2)
def under (fs : List Fi) (p : List UInt8) : List Fi := (fs.filter fun f => below f.1 p).map (tail p)
def repl : List Fi → Fi → List Fi
  | [], _ => []
  | g :: r, f => if g.1 == f.1 then f :: r else g :: repl r f
def ins : List Fi → Fi → List Fi
  | [], f => [f]
  | g :: r, f => if bl f.1 g.1 then f :: g :: r else g :: ins r f
def has (fs : List Fi) (p : List UInt8) : Bool := fs.any fun g => g.1 == p
def put (fs : List Fi) (f : Fi) : List Fi := if has fs f.1 then repl fs f else ins fs f
def withF (fs : List Fi) (f : Fi) : List Fi × Int :=
  if chk1 f ≠ 0 then ([], chk1 f) else if kin fs f.1 then ([], 16) else if (put fs f).length > 32 then ([], 15) else (put fs f, 0)
def head (p : List UInt8) (f : Fi) : Fi := (p ++ 47 :: f.1, f.2)
def into (fs : List Fi) (p : List UInt8) : List Fi × Int :=
  if path p ≠ 0 then ([], 13) else if (fs.all fun f => path (head p f).1 == 0) = true then (fs.map (head p), 0) else ([], 13)
def union : List Fi → List Fi → List Fi × Int
  | fs, [] => (fs, 0)
  | fs, f :: r => if (withF fs f).2 ≠ 0 then ([], (withF fs f).2) else union (withF fs f).1 r
end Go.Proofs.YtcmbmbdjdkldoaaDoor.M
