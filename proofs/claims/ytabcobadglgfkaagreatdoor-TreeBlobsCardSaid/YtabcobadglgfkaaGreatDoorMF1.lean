/- Merged of: PathsM Fl PathsA LiftF PathsB PathsC PathsD PathsE PathsF. -/
import Derived.Test.YtabcobadglgfkaaGreatDoorMC1
import Derived.Test.YtabcobadglgfkaaGreatDoorShelf
import Derived.Lib.Split
import Derived.Lib.IndexMore
import Derived.Deep.SlicePairs
import Derived.HandedShaped
import Derived.Lay
import Derived.Shelf.Abstract
import Derived.Laws.MakeOwn
import Derived.Deep.AppendLies
/- What paths, names and sets of files are, in plain words on lists of bytes. Nothing of the program stands here. -/
namespace Go.Proofs.YtabcobadglgfkaaGreatDoor.M
open Go.Lib

/-- A file: its path and its data. -/
abbrev Fi := List UInt8 × List UInt8

abbrev bl (a b : List UInt8) : Bool := Op.bytesLess a b
theorem bl_nil_right (a : List UInt8) : bl a [] = false := by cases a <;> rfl
theorem bl_cons (a b : UInt8) (x y : List UInt8) : bl (a :: x) (b :: y) = (decide (a < b) || (a == b && bl x y)) := rfl
theorem bl_irrefl : ∀ a : List UInt8, bl a a = false
  | [] => rfl
  | a :: x => by rw [bl_cons, bl_irrefl x]; simp
theorem bl_trans : ∀ {a b c : List UInt8}, bl a b = true → bl b c = true → bl a c = true
  | _, _, [], _, h => by rw [bl_nil_right] at h; cases h
  | _, [], _ :: _, h, _ => by rw [bl_nil_right] at h; cases h
  | [], _ :: _, _ :: _, _, _ => rfl
  | a :: x, b :: y, c :: z, h1, h2 => by
      rw [bl_cons] at h1 h2 ⊢
      simp only [Bool.or_eq_true, decide_eq_true_eq, Bool.and_eq_true, beq_iff_eq] at h1 h2 ⊢
      rcases h1 with h1 | ⟨rfl, h1⟩
      · rcases h2 with h2 | ⟨rfl, h2⟩
        · exact Or.inl (UInt8.lt_trans h1 h2)
        · exact Or.inl h1
      · rcases h2 with h2 | ⟨rfl, h2⟩
        · exact Or.inl h2
        · exact Or.inr ⟨rfl, bl_trans h1 h2⟩
theorem bl_total : ∀ {a b : List UInt8}, bl a b = false → a ≠ b → bl b a = true
  | [], [], _, h => absurd rfl h
  | [], _ :: _, h, _ => by cases h
  | _ :: _, [], _, _ => rfl
  | a :: x, b :: y, h, hne => by
      rw [bl_cons] at h ⊢
      simp only [Bool.or_eq_false_iff, decide_eq_false_iff_not, Bool.and_eq_false_iff, Bool.or_eq_true, decide_eq_true_eq, Bool.and_eq_true, beq_iff_eq] at h ⊢
      by_cases hab : a = b
      · subst hab
        refine Or.inr ⟨rfl, bl_total ?_ (fun e => hne (by rw [e]))⟩
        rcases h.2 with h2 | h2
        · simp at h2
        · exact h2
      · left
        have := h.1
        have h1 : ¬ a.toNat < b.toNat := this
        have h2 : a.toNat ≠ b.toNat := fun e => hab (UInt8.toNat_inj.1 e)
        show b.toNat < a.toNat
        omega
theorem bl_asymm {a b : List UInt8} (h : bl a b = true) : bl b a = false := by
  cases h2 : bl b a with
  | false => rfl
  | true => have := bl_trans h h2; rw [bl_irrefl] at this; cases this
theorem bl_ne {a b : List UInt8} (h : bl a b = true) : a ≠ b := fun e => by rw [e, bl_irrefl] at h; cases h
theorem bl_append : ∀ (x a b : List UInt8), bl (x ++ a) (x ++ b) = bl a b
  | [], _, _ => rfl
  | c :: x, a, b => by rw [List.cons_append, List.cons_append, bl_cons, bl_append x]; simp

def okByte (c : UInt8) : Bool := decide (33 ≤ c.toNat) && decide (c.toNat ≤ 126)
def okPart (p : List UInt8) : Bool := !(p == []) && !(p == [46]) && !(p == [46, 46]) && p.all okByte
/-- Are all parts right, the first of them begun with cur? -/
def scan : List UInt8 → List UInt8 → Bool
  | cur, [] => okPart cur
  | cur, c :: r => if c = 47 then okPart cur && scan [] r else scan (cur ++ [c]) r
def path (s : List UInt8) : Int := if s.length ≤ 48 ∧ scan [] s = true then 0 else 13

theorem scan_none : ∀ (s cur : List UInt8), (∀ c ∈ s, c ≠ 47) → scan cur s = okPart (cur ++ s)
  | [], cur, _ => by rw [List.append_nil]; rfl
  | c :: r, cur, h => by
      rw [scan, if_neg (h c (by simp)), scan_none r _ (fun d hd => h d (by simp [hd]))]
      simp
theorem scan_at : ∀ (a cur r : List UInt8), (∀ c ∈ a, c ≠ 47) → scan cur (a ++ 47 :: r) = (okPart (cur ++ a) && scan [] r)
  | [], cur, r, _ => by rw [List.nil_append, scan, if_pos rfl, List.append_nil]
  | c :: a, cur, r, h => by
      rw [List.cons_append, scan, if_neg (h c (by simp)), scan_at a _ r (fun d hd => h d (by simp [hd]))]
      simp
theorem scan_join : ∀ (a cur x : List UInt8), scan cur (a ++ 47 :: x) = (scan cur a && scan [] x)
  | [], cur, x => by simp [scan]
  | c :: a, cur, x => by
      rw [List.cons_append, scan, scan]
      split
      · rw [scan_join a [] x, Bool.and_assoc]
      · exact scan_join a _ x

theorem index47 (s : List UInt8) : (index s [47] = -1 ∧ (∀ c ∈ s, c ≠ 47)) ∨ ∃ i : Nat, index s [47] = i ∧ i < s.length ∧ (∀ c ∈ s.take i, c ≠ 47) ∧ s = s.take i ++ 47 :: s.drop (i + 1) := by
  rw [index_one]
  by_cases hm : indexByte s 47 = -1
  · left
    refine ⟨hm, fun c hc e => ?_⟩
    obtain ⟨k, hk, rfl⟩ := List.getElem_of_mem hc
    exact indexByte_none hm k (by rw [List.getElem?_eq_getElem hk, e])
  · right
    have h0 := indexByte_ge s 47
    obtain ⟨i, hi⟩ : ∃ i : Nat, indexByte s 47 = i := ⟨(indexByte s 47).toNat, by omega⟩
    obtain ⟨h1, h2⟩ := indexByte_some hi
    have hlt := (List.getElem?_eq_some_iff.1 h1).1
    refine ⟨i, hi, hlt, fun c hc e => ?_, ?_⟩
    · obtain ⟨k, hk, rfl⟩ := List.getElem_of_mem hc
      rw [List.length_take] at hk
      rw [List.getElem_take] at e
      exact h2 k (by omega) (by rw [List.getElem?_eq_getElem (by omega), e])
    · have := List.getElem?_eq_some_iff.1 h1
      conv => lhs; rw [← List.take_append_drop i s, List.drop_eq_getElem_cons hlt, this.2]
theorem parts_all : ∀ (n : Nat) (s : List UInt8), s.length ≤ n → (splitK [47] 0 (count s [47]) s).all okPart = scan [] s
  | n, s, hn => by
      rcases index47 s with ⟨h1, h2⟩ | ⟨i, h1, h2, h3, h4⟩
      · rw [count_miss h1, splitK, scan_none s [] h2]
        simp
      · have hc := count_hit (s := s) (sub := [47]) (by simp) h1
        rw [hc, Nat.add_comm, splitK, if_neg (by rw [h1]; simp), h1]
        conv => rhs; rw [h4, scan_at _ _ _ h3]
        match n with
        | 0 => omega
        | n + 1 =>
          have ih := parts_all n (s.drop (i + 1)) (by simp; omega)
          rw [List.all_cons]
          simp only [Int.toNat_natCast, List.length_singleton, Nat.add_zero, List.nil_append]
          rw [ih]

def nameByte (c : UInt8) : Bool := (decide (97 ≤ c.toNat) && decide (c.toNat ≤ 122)) || (decide (48 ≤ c.toNat) && decide (c.toNat ≤ 57)) || c == 45 || c == 95
def name (s : List UInt8) : Int := if 1 ≤ s.length ∧ s.length ≤ 16 ∧ s.all nameByte = true then 0 else 14

/-- Is p below t? -/
def below (p t : List UInt8) : Bool := decide (t.length + 1 < p.length) && (p[t.length]? == some 47) && (p.take t.length == t)
theorem below_iff (p t : List UInt8) : below p t = true ↔ ∃ x, x ≠ [] ∧ p = t ++ 47 :: x := by
  unfold below
  simp only [Bool.and_eq_true, decide_eq_true_eq, beq_iff_eq]
  constructor
  · rintro ⟨⟨h1, h2⟩, h3⟩
    obtain ⟨hlt, h2⟩ := List.getElem?_eq_some_iff.1 h2
    refine ⟨p.drop (t.length + 1), fun e => ?_, ?_⟩
    · have := congrArg List.length e
      simp at this; omega
    · conv => lhs; rw [← List.take_append_drop t.length p, List.drop_eq_getElem_cons hlt, h2, h3]
  · rintro ⟨x, hx, rfl⟩
    have := List.length_pos_iff.2 hx
    refine ⟨⟨by simp; omega, by simp⟩, by simp⟩
theorem below_ne {p t : List UInt8} (h : below p t = true) : p ≠ t := fun e => by
  obtain ⟨x, hx, rfl⟩ := (below_iff _ _).1 h
  have := congrArg List.length e
  simp at this
theorem below_self (p : List UInt8) : below p p = false := by
  cases h : below p p with
  | false => rfl
  | true => exact absurd rfl (below_ne h)
theorem below_under (p x y : List UInt8) : below (p ++ 47 :: x) (p ++ 47 :: y) = below x y := by
  rw [Bool.eq_iff_iff, below_iff, below_iff]
  constructor
  · rintro ⟨z, hz, h⟩
    exact ⟨z, hz, by simpa [List.append_assoc] using h⟩
  · rintro ⟨z, hz, rfl⟩
    exact ⟨z, hz, by simp⟩

def kin (fs : List Fi) (p : List UInt8) : Bool := fs.any fun g => below p g.1 || below g.1 p
def chk1 (f : Fi) : Int := if path f.1 ≠ 0 then 13 else if f.2.length > 2048 then 15 else 0
def firstErr : List Fi → Int
  | [] => 0
  | f :: r => if chk1 f ≠ 0 then chk1 f else firstErr r
def asc : List Fi → Bool
  | [] => true
  | [_] => true
  | a :: b :: r => bl a.1 b.1 && asc (b :: r)
def check (fs : List Fi) : Int :=
  if firstErr fs ≠ 0 then firstErr fs else if fs.length > 32 then 15 else if asc fs = true ∧ (fs.any fun f => kin fs f.1) = false then 0 else 16

def get (fs : List Fi) (p : List UInt8) : List UInt8 × Bool := match fs.find? (fun f => f.1 == p) with | some f => (f.2, true) | none => ([], false)
def without (fs : List Fi) (p : List UInt8) : List Fi := fs.filter fun f => !(f.1 == p || below f.1 p)
def tail (p : List UInt8) (f : Fi) : Fi := (f.1.drop (p.length + 1), f.2)
def under (fs : List Fi) (p : List UInt8) : List Fi := (fs.filter fun f => below f.1 p).map (tail p)
def repl : List Fi → Fi → List Fi
  | [], _ => []
  | g :: r, f => if g.1 == f.1 then f :: r else g :: repl r f
def ins : List Fi → Fi → List Fi
  | [], f => [f]
  | g :: r, f => if bl f.1 g.1 then f :: g :: r else g :: ins r f
def has (fs : List Fi) (p : List UInt8) : Bool := fs.any fun g => g.1 == p
def put (fs : List Fi) (f : Fi) : List Fi := if has fs f.1 then repl fs f else ins fs f
def withF (fs : List Fi) (f : Fi) : List Fi × Int :=
  if chk1 f ≠ 0 then ([], chk1 f) else if kin fs f.1 then ([], 16) else if (put fs f).length > 32 then ([], 15) else (put fs f, 0)
def head (p : List UInt8) (f : Fi) : Fi := (p ++ 47 :: f.1, f.2)
def into (fs : List Fi) (p : List UInt8) : List Fi × Int :=
  if path p ≠ 0 then ([], 13) else if (fs.all fun f => path (head p f).1 == 0) = true then (fs.map (head p), 0) else ([], 13)
def union : List Fi → List Fi → List Fi × Int
  | fs, [] => (fs, 0)
  | fs, f :: r => if (withF fs f).2 ≠ 0 then ([], (withF fs f).2) else union (withF fs f).1 r
end Go.Proofs.YtabcobadglgfkaaGreatDoor.M

/- Lists of files in memory: what a slice of files reads as, what the call owns. -/
namespace Go.Proofs.YtabcobadglgfkaaGreatDoor
open Go.RowKit

/-- A text, as a value. -/
abbrev S (l : List UInt8) : Value := .string ⟨⟨l⟩⟩
/-- A file, as a value. -/
abbrev fv (f : M.Fi) : Value := .agg #[.string ⟨⟨f.1⟩⟩, .string ⟨⟨f.2⟩⟩]
/-- Files' cells, two each. -/
def cells (fs : List M.Fi) : List Value := fs.flatMap fun f => [S f.1, S f.2]
theorem cells_nil : cells [] = [] := rfl
theorem cells_append (a b : List M.Fi) : cells (a ++ b) = cells a ++ cells b := by simp [cells]
theorem cells_one (f : M.Fi) : cells [f] = [S f.1, S f.2] := rfl
theorem cells_len : ∀ fs : List M.Fi, (cells fs).length = fs.length * 2
  | [] => rfl
  | f :: r => by
      have := cells_len r
      simp only [cells, List.flatMap_cons, List.length_append, List.length_cons, List.length_nil] at this ⊢
      omega
theorem cells_cons (f : M.Fi) (r : List M.Fi) : cells (f :: r) = S f.1 :: S f.2 :: cells r := by simp [cells]
theorem cells_at : ∀ (fs : List M.Fi) (j : Nat) (h : j < fs.length), (cells fs)[j * 2]? = some (S fs[j].1) ∧ (cells fs)[j * 2 + 1]? = some (S fs[j].2)
  | f :: r, 0, _ => by rw [cells_cons]; exact ⟨rfl, rfl⟩
  | f :: r, j + 1, h => by
      rw [cells_cons]
      have := cells_at r j (by simpa using h)
      rw [show (j + 1) * 2 = j * 2 + 2 by omega, show j * 2 + 2 + 1 = j * 2 + 1 + 2 by omega]
      simpa using this
theorem cells_take (fs : List M.Fi) (n : Nat) : (cells fs).take (n * 2) = cells (fs.take n) := by
  induction fs generalizing n with
  | nil => simp [cells]
  | cons f r ih =>
    cases n with
    | zero => simp [cells]
    | succ n =>
      rw [cells_cons, show (n + 1) * 2 = n * 2 + 2 by omega]
      simp only [List.take_succ_cons, ih, cells_cons]
theorem cells_drop (fs : List M.Fi) (n : Nat) : (cells fs).drop (n * 2) = cells (fs.drop n) := by
  induction fs generalizing n with
  | nil => simp [cells]
  | cons f r ih =>
    cases n with
    | zero => simp
    | succ n =>
      rw [cells_cons, show (n + 1) * 2 = n * 2 + 2 by omega]
      simp only [List.drop_succ_cons, ih]
theorem cells_set (fs : List M.Fi) (j : Nat) (f : M.Fi) : ((cells fs).set (j * 2) (S f.1)).set (j * 2 + 1) (S f.2) = cells (fs.set j f) := by
  induction fs generalizing j with
  | nil => simp [cells]
  | cons g r ih =>
    cases j with
    | zero => simp [cells_cons]
    | succ j =>
      rw [cells_cons, show (j + 1) * 2 = j * 2 + 2 by omega, show j * 2 + 2 + 1 = j * 2 + 1 + 2 by omega]
      simp only [List.set_cons_succ, cells_cons, ih]
theorem cells_inj : ∀ {a b : List M.Fi}, cells a = cells b → a = b
  | [], [], _ => rfl
  | [], _ :: _, h => by rw [cells_cons] at h; cases h
  | _ :: _, [], h => by rw [cells_cons] at h; cases h
  | f :: a, g :: b, h => by
      rw [cells_cons, cells_cons] at h
      simp only [List.cons.injEq] at h
      have h1 : f.1 = g.1 := by have := h.1; simpa using this
      have h2 : f.2 = g.2 := by have := h.2.1; simpa using this
      rw [cells_inj h.2.2, Prod.ext h1 h2]
theorem cells_plain (fs : List M.Fi) : ∀ u ∈ cells fs, u.oneCell' = true := by
  intro u hu
  obtain ⟨f, _, hf⟩ := List.mem_flatMap.1 hu
  simp only [List.mem_cons, List.not_mem_nil, or_false] at hf
  rcases hf with rfl | rfl <;> rfl

/-- The slice v reads as the files fs, two cells each. -/
def Fl (w : World) (v : Value) (fs : List M.Fi) : Prop :=
  ∃ p cap, v = .slice p fs.length cap ∧ (p = none → cap = 0) ∧ fs.length ≤ cap ∧ (fs ≠ [] → ∃ b off, p = some ⟨b, off, none⟩ ∧ b < w.heap.size ∧
    ∀ j (h : j < fs.length), w.cell? ⟨b, off + j * 2, none⟩ = some (S fs[j].1) ∧ w.cell? ⟨b, off + j * 2 + 1, none⟩ = some (S fs[j].2))
theorem Fl.old {w w' : World} {v : Value} {fs : List M.Fi} (h : Fl w v fs) (k : Old w w') : Fl w' v fs := by
  obtain ⟨p, cap, hv, h0, hc, hx⟩ := h
  refine ⟨p, cap, hv, h0, hc, fun hne => ?_⟩
  obtain ⟨b, off, hp, hb, hx⟩ := hx hne
  have hs := k.size
  exact ⟨b, off, hp, by omega, fun j hj => ⟨(k.cell (p := ⟨b, off + j * 2, none⟩) hb).trans (hx j hj).1, (k.cell (p := ⟨b, off + j * 2 + 1, none⟩) hb).trans (hx j hj).2⟩⟩
theorem Fl.drewN {w : World} {v : Value} {fs : List M.Fi} (h : Fl w v fs) (n : Nat) : Fl (w.drewN n) v fs := h
theorem Fl.len {w : World} {v : Value} {fs : List M.Fi} (h : Fl w v fs) : ∃ p cap, v = .slice p fs.length cap := by
  obtain ⟨p, cap, hv, _⟩ := h
  exact ⟨p, cap, hv⟩
theorem Fl.at {w : World} {p : Option Addr} {n cap : Nat} {fs : List M.Fi} (h : Fl w (.slice p n cap) fs) (hne : fs ≠ []) :
    ∃ b off, p = some ⟨b, off, none⟩ ∧ b < w.heap.size ∧ ∀ j (h : j < fs.length), w.cell? ⟨b, off + j * 2, none⟩ = some (S fs[j].1) ∧ w.cell? ⟨b, off + j * 2 + 1, none⟩ = some (S fs[j].2) := by
  obtain ⟨p', cap', hv, _, _, hx⟩ := h
  injection hv with h1 h2 h3
  subst h1
  exact hx hne
theorem Fl.len' {w : World} {p : Option Addr} {n cap : Nat} {fs : List M.Fi} (h : Fl w (.slice p n cap) fs) : fs.length = n := by
  obtain ⟨p', cap', hv, _⟩ := h
  injection hv with h1 h2 h3
  exact h2.symm
theorem Fl.nil (w : World) : Fl w (.slice none 0 0) [] := ⟨none, 0, rfl, fun _ => rfl, Nat.le_refl _, fun h => absurd rfl h⟩

/-- The call owns the slice v, which reads as the files fs; its block is none of those below B. -/
abbrev Own (B : Nat) (w : World) (v : Value) (fs : List M.Fi) : Prop := w.ownsRow B 54 2 v fs.length (cells fs)
theorem Own.fl {B : Nat} {w : World} {v : Value} {fs : List M.Fi} (h : Own B w v fs) : Fl w v fs := by
  obtain ⟨_, ⟨hv, hn⟩ | ⟨g, cap, cur, hv, hg, hb, hcap, hmax, hsz, htake⟩⟩ := h
  · rw [List.eq_nil_of_length_eq_zero hn, hv]; exact Fl.nil w
  · refine ⟨_, cap, hv, (fun h => by cases h), hcap, fun _ => ⟨g, 0, rfl, (Array.getElem?_eq_some_iff.1 hb).1, fun j hj => ?_⟩⟩
    have hx : ∀ i, i < fs.length * 2 → w.cell? ⟨g, 0 + i, none⟩ = (cells fs)[i]? := fun i hi => by
      rw [← htake, List.getElem?_take, if_pos hi, Nat.zero_add]
      simp [World.cell?, hb]
    have e := cells_at fs j hj
    exact ⟨(hx _ (by omega)).trans e.1, (hx (j * 2 + 1) (by omega)).trans e.2⟩
theorem Own.nil (B : Nat) (w : World) : Own B w (.slice none 0 0) [] := World.ownsRow_nil w B _ 2
theorem Own.old {B : Nat} {w w' : World} {v : Value} {fs : List M.Fi} (h : Own B w v fs) (k : Old w w') : Own B w' v fs := row_keep h (Keep.of_old (S := fun _ => False) k) (fun _ _ h => h)
theorem Own.mono {B B' : Nat} {w : World} {v : Value} {fs : List M.Fi} (h : Own B w v fs) (hB : B' ≤ B) : Own B' w v fs := by
  refine ⟨h.1, ?_⟩
  rcases h.2 with hn | ⟨g, cap, cur, hv, hg, rest⟩
  · exact Or.inl hn
  · exact Or.inr ⟨g, cap, cur, hv, by omega, rest⟩

theorem infoFile : (Tryz.prog.info? 54).map (fun i => (i.zero, i.size, i.bytes)) = some (some (.agg #[.string ByteArray.empty, .string ByteArray.empty]), 2, 32) := by kernel_rfl
end Go.Proofs.YtabcobadglgfkaaGreatDoor

/- The program's small tests: parts of paths, bytes of names, whether a path is below another one. -/
namespace Go.Proofs.YtabcobadglgfkaaGreatDoor
open Go.RowKit

theorem tl_beq (a b : List UInt8) : ((⟨⟨a⟩⟩ : ByteArray).toList == (⟨⟨b⟩⟩ : ByteArray).toList) = decide (a = b) := by
  rw [Bool.eq_iff_iff, ByteArray.toList_eq, ByteArray.toList_eq]
  simp
theorem size_mk (l : List UInt8) : (⟨⟨l⟩⟩ : ByteArray).size = l.length := rfl

/-- The cell of which strings.Split's road asks holds some number. -/
def Mx (w : World) : Prop := ∃ m, w.cell? ⟨2, 0, none⟩ = some (.int .i64 m)
theorem Mx.old {w w' : World} (h : Mx w) (k : Old w w') : Mx w' := by
  obtain ⟨m, h⟩ := h
  exact ⟨m, (k.cell (p := ⟨_, 0, none⟩) (World.block_lt_of_cell? _ _ h)).trans h⟩

theorem okPart_false {p : List UInt8} {k : Nat} (hk : k < p.length) (h : M.okByte p[k] = false) : M.okPart p = false := by
  unfold M.okPart
  have : p.all M.okByte = false := by
    rw [List.all_eq_false]
    exact ⟨p[k], List.getElem_mem hk, by rw [h]; simp⟩
  rw [this, Bool.and_false]
theorem okPart_true {p : List UInt8} (h1 : p ≠ []) (h2 : p ≠ [46]) (h3 : p ≠ [46, 46]) (h : ∀ j (hj : j < p.length), M.okByte p[j] = true) : M.okPart p = true := by
  have : p.all M.okByte = true := by
    rw [List.all_eq_true]
    intro x hx
    obtain ⟨j, hj, rfl⟩ := List.getElem_of_mem hx
    exact h j hj
  unfold M.okPart
  rw [this, beq_eq_false_iff_ne.2 h1, beq_eq_false_iff_ne.2 h2, beq_eq_false_iff_ne.2 h3]
  rfl

set_option maxHeartbeats 1000000 in
set_option maxRecDepth 100000 in
theorem isPart_any (p : List UInt8) (hl : p.length ≤ 1099511627776) (w : World) :
    Calls Tryz.prog 109 #[S p] w fun e w' => e = .returned (.bool (M.okPart p)) ∧ w' = w := by
  by_cases h1 : p = []
  · subst h1
    go_enter Tryz.func109, Tryz.ntmps109
    go_wp2
    go_ret
    exact ⟨rfl, rfl⟩
  by_cases h2 : p = [46]
  · subst h2
    go_enter Tryz.func109, Tryz.ntmps109
    go_wp2
    go_ret
    exact ⟨rfl, rfl⟩
  by_cases h3 : p = [46, 46]
  · subst h3
    go_enter Tryz.func109, Tryz.ntmps109
    go_wp2
    go_ret
    exact ⟨rfl, rfl⟩
  have e1 : p.isEmpty = false := by simpa using h1
  have e2 : (p == [46]) = false := beq_eq_false_iff_ne.2 h2
  have e3 : (p == [46, 46]) = false := beq_eq_false_iff_ne.2 h3
  have H1 := Lib.hid h1
  have H2 := Lib.hid h2
  have H3 := Lib.hid h3
  clear h1 h2 h3
  have hsz := size_mk p
  go_enter Tryz.func109, Tryz.ntmps109
  go_wp2
  go_loopw [3] (fun i wr => ∃ k : Nat, k ≤ p.length ∧ i = .int .i64 k ∧ wr = w ∧ Hid (∀ j (hj : j < p.length), j < k → M.okByte p[j] = true)) (fun i _ => p.length - (intOf i).toNat)
  case atStart => exact ⟨0, Nat.zero_le _, rfl, rfl, Lib.hid (fun j _ h => absurd h (Nat.not_lt_zero _))⟩
  case round =>
    obtain ⟨k, hk, rfl, rfl, hall⟩ := hrel
    by_cases hlt : k < p.length
    · obtain ⟨c, hgt⟩ : ∃ c, ∀ h, (⟨⟨p⟩⟩ : ByteArray)[k]'h = c := ⟨p[k], fun _ => rfl⟩
      have HC := Lib.hid (show p[k] = c from hgt hlt)
      by_cases hlo : c.toNat < 33
      · go_wp2
        go_ret
        exact ⟨ret_bool (okPart_false hlt (by rw [HC.out]; unfold M.okByte; rw [decide_eq_false (by omega), Bool.false_and])).symm, rfl⟩
      · by_cases hhi : 126 < c.toNat
        · go_wp2
          go_ret
          exact ⟨ret_bool (okPart_false hlt (by rw [HC.out]; unfold M.okByte; rw [decide_eq_false (p := c.toNat ≤ 126) (by omega), Bool.and_false])).symm, rfl⟩
        · go_wp2
          go_roundw
          case rel =>
            refine ⟨k + 1, by omega, by go_num, trivial, Lib.hid (fun j hj hjk => ?_)⟩
            by_cases he : j = k
            · subst he
              rw [HC.out]; unfold M.okByte; rw [decide_eq_true (by omega), decide_eq_true (by omega)]; rfl
            · exact hall.out j hj (by omega)
          case measure => simp [intOf]; omega
    · obtain rfl : k = p.length := by omega
      go_wp2
      go_ret
      exact ⟨ret_bool (okPart_true H1.out H2.out H3.out (fun j hj => hall.out j hj hj)).symm, rfl⟩

theorem hasPrefix_take (p t : List UInt8) : Lib.hasPrefix p t = (p.take t.length == t) := by
  unfold Lib.hasPrefix
  rw [Bool.eq_iff_iff, beq_iff_eq, List.isPrefixOf_iff_prefix, List.prefix_iff_eq_take]
  exact ⟨fun h => h.symm, fun h => h.symm⟩
theorem isBelow_any (p t : List UInt8) (_ : p.length ≤ 1099511627776) (ht : t.length ≤ 1099511627776) (w : World) :
    Calls Tryz.prog 69 #[S p, S t] w fun e w' => e = .returned (.bool (M.below p t)) ∧ w' = w := by
  have HP := Lib.hid (Tryz.strings_HasPrefix ⟨⟨p⟩⟩ ⟨⟨t⟩⟩ w)
  have h1 := size_mk p
  have h2 := size_mk t
  have HB := Lib.hid (show M.below p t = (decide (t.length + 1 < p.length) && (p[t.length]? == some 47) && (p.take t.length == t)) from rfl)
  by_cases hlt : t.length + 1 < p.length
  · obtain ⟨c, hgt⟩ : ∃ c, ∀ h, (⟨⟨p⟩⟩ : ByteArray)[t.length]'h = c := ⟨p[t.length], fun _ => rfl⟩
    have HC := Lib.hid (show p[t.length]? = some c by rw [List.getElem?_eq_getElem (by omega)]; exact congrArg some (hgt (by rw [h1]; omega)))
    have hcl := c.toNat_lt
    by_cases hc : c.toNat = 47
    · have hcn : c = 47 := UInt8.toNat_inj.1 hc
      go_enter Tryz.func69, Tryz.ntmps69
      go_wp2_with ((with_reducible refine HP.out.mono ?_); rintro e w1 ⟨rfl, rfl⟩)
      go_ret
      refine ⟨ret_bool ?_, rfl⟩
      rw [HB.out, HC.out, hcn, decide_eq_true hlt, hasPrefix_take]
      rfl
    · go_enter Tryz.func69, Tryz.ntmps69
      go_wp2
      go_ret
      refine ⟨ret_bool ?_, rfl⟩
      rw [HB.out, HC.out, decide_eq_true hlt]
      have : (some c == some 47) = false := beq_eq_false_iff_ne.2 (fun e => hc (by rw [Option.some.inj e]; rfl))
      rw [this]
      rfl
  · go_enter Tryz.func69, Tryz.ntmps69
    go_wp2
    go_ret
    exact ⟨ret_bool (by rw [HB.out, decide_eq_false hlt]; rfl), rfl⟩
end Go.Proofs.YtabcobadglgfkaaGreatDoor

/- Files that came in, and the builder that hands on the world's shape. -/
namespace Go.Proofs.YtabcobadglgfkaaGreatDoor
open Go.ChangeShapes Go.WideShapes Go.ChangeAt Go.RowKit

section
variable {H : Type} {enc : TypeId × Value → H}

theorem mx_of {W : World} (h : W.ShapedOpen Tryz.prog) : Mx W := Tryz.laysM146.s1_3 W h

set_option maxRecDepth 100000 in
theorem handed_shaped {os : Os} {f : FuncId} {fn : Func} {s : ChangeSpec} {X : World → Prop} (hX : ∀ w w' : World, w.heap = w'.heap → X w → X w')
    (started : os.Started) (noInit : Tryz.checked.prog.inits.idxOf? f = none) (hfn : Tryz.checked.prog.funcs[f]? = some fn)
    (witness : ∃ (w : World) (tape : Tape) (i : Input), w.os = os ∧ (w.forCall tape i).Shaped Tryz.checked.prog ∧ i.vars = [] ∧ Input.okWide Tryz.checked.prog (w.forCall tape i) .any w.heap.size f i ∧
      ((s.pre enc Tryz.checked.prog fn [] false (w.forCall tape i).memory i.args ∧ X (w.forCall tape i).memory) ∧ sizedMet enc Tryz.checked.prog fn (OpenSpec.ofChange s) false (w.forCall tape i).memory i.args) ∧ ({} : Assume).holds Tryz.checked.prog (lone (Frame.enter Tryz.checked.prog f i.args .normal) [] (w.forCall tape i)))
    (contract : ∀ (W : World) (base : Nat) (args : Array Value) (ds gs : List (DataW H)) (before : List MemPlace),
      (∀ (j : Nat) t v, fn.params[j]? = some t → args[j]? = some v → Value.okWide Tryz.checked.prog W .any base t v) →
      DataW.Whole enc Tryz.checked.prog fn.params.toList s.vars false W args.toList ds gs before → W.ShapedOpen Tryz.checked.prog → X W →
      Calls Tryz.checked.prog f args W fun e W' => ∃ v, e = .returned v ∧ s.post enc Tryz.checked.prog fn false true false false W args v W') :
    ReturnsInHanded {} Tryz.checked os f .any (fun w args => (s.pre enc Tryz.checked.prog fn [] false w args ∧ X w) ∧ sizedMet enc Tryz.checked.prog fn (OpenSpec.ofChange s) false w args) (s.post enc Tryz.checked.prog fn false true false false) := by
  refine returnsInHanded_of_calls own started noInit witness ?_
  intro w tape i _ hsh _ hok hpre _
  obtain ⟨_, _, _, fn', hfn', _, _, _, _, hval⟩ := hok
  obtain rfl : fn' = fn := Option.some.inj (hfn'.symm.trans hfn)
  obtain ⟨⟨⟨ds, gs, before, hw, _⟩, hx⟩, _⟩ := hpre
  have hw' := DataW.Whole.of_heap (w' := w.forCall tape i) (by rfl) hw
  refine (contract (w.forCall tape i) w.heap.size i.args ds gs before hval hw' hsh (hX _ _ (by rfl) hx)).mono fun e W' ⟨v, he, hp⟩ => ?_
  subst he
  exact ChangeSpec.post_blind hp

theorem file_fields : ∃ f0 f1 : Field, Tryz.prog.underlying 54 = some (.struct #[f0, f1]) ∧ f0.offset = 0 ∧ f1.offset = 1 ∧ f0.type = 9 ∧ f1.type = 9 := ⟨_, _, Tryz.underlying54, rfl, rfl, rfl, rfl⟩
theorem file_cells : Tryz.prog.cellsOf 54 = 2 := by kernel_rfl
theorem string_cells : Tryz.prog.cellsOf 9 = 1 := by kernel_rfl

set_option maxRecDepth 100000 in
/-- A list of files that came in. -/
theorem open_files {t : TypeId} {W : World} {base : Nat} {v : Value} {d : DataW H} {p : List MemPlace} (ht : Tryz.prog.underlying t = some (.slice 54)) (hval : Value.okWide Tryz.prog W .any base t v)
    (h : DataW.Trod enc Tryz.prog W 0 (fun _ => true) true t v d p) :
    ∃ fs : List M.Fi, Fl W v fs ∧ fs.length ≤ maxLen ∧ ∀ f, f ∈ fs → f.1.length ≤ maxLen ∧ f.2.length ≤ maxLen := by
  obtain ⟨fuel, hf⟩ := h
  obtain ⟨a, len, cap, rfl⟩ := okWide_slice ht hval
  obtain ⟨f0, f1, he, o0, o1, t0, t1⟩ := file_fields
  rcases Deep.open_slice_pairs ht he file_cells o0 o1 (by rw [t0]; exact string_cells) (by rw [t1]; exact string_cells) hf with ⟨hc, _⟩ | ⟨a', len', cap', m, n, V0, V1, D0, D1, P0, P1, hc, _, hlc, hmax, hm, _, hall⟩
  · have hv : (Value.slice a len cap) = .slice none 0 0 := by simpa [Value.cells] using hc
    rw [hv]
    exact ⟨[], Fl.nil _, Nat.zero_le _, fun s hs => by cases hs⟩
  · have hv : (Value.slice a len cap) = .slice (some a') len' cap' := by simpa [Value.cells] using hc
    rw [hv]
    rw [if_pos rfl] at hm

    have each : ∀ i, i < len' → ∃ q : M.Fi, W.cell? (a'.add (i * 2)) = some (S q.1) ∧ W.cell? (a'.add (i * 2 + 1)) = some (S q.2) ∧ q.1.length ≤ maxLen ∧ q.2.length ≤ maxLen := by
      intro i hi
      obtain ⟨c0, c1, r0, r1⟩ := hall i (by omega)
      rw [t0] at r0
      rw [t1] at r1
      obtain ⟨s0, e0, _, z0⟩ := DataW.trod_string Tryz.underlying9 r0
      obtain ⟨s1, e1, _, z1⟩ := DataW.trod_string Tryz.underlying9 r1
      refine ⟨(s0.data.toList, s1.data.toList), ?_, ?_, by simpa using z0, by simpa using z1⟩
      · rw [c0]; simp only [List.cons.injEq, and_true] at e0; rw [e0]
      · rw [c1]; simp only [List.cons.injEq, and_true] at e1; rw [e1]
    obtain ⟨q, hq⟩ := Deep.choose_lt each
    have hl : ((List.range len').map q).length = len' := by simp
    refine ⟨(List.range len').map q, ⟨some a', cap', by rw [hl], (fun h => by cases h), by rw [hl]; exact hlc, fun hne => ?_⟩, by rw [hl]; omega, fun f hfm => ?_⟩
    · have hpos : 0 < len' := by
        rcases Nat.eq_zero_or_pos len' with h | h
        · rw [h] at hne; exact absurd rfl hne
        · exact h
      have h0 := (hq 0 hpos).1
      have ha : a'.add (0 * 2) = a' := by simp [Addr.add]
      rw [ha] at h0
      have hsp : a'.spot = none := by
        cases hs : a'.spot with
        | none => rfl
        | some x =>
          unfold World.cell? at h0
          split at h0
          · rw [if_pos (by rw [hs]; rfl)] at h0; cases h0
          · cases h0
      obtain ⟨b, off, sp⟩ := a'
      simp only at hsp
      subst hsp
      refine ⟨b, off, rfl, World.block_lt_of_cell? _ _ h0, fun j hj => ?_⟩
      rw [hl] at hj
      obtain ⟨c0, c1, _⟩ := hq j hj
      rw [Addr.add_lit] at c0 c1
      simp only [List.getElem_map, List.getElem_range]
      exact ⟨c0, by rw [Nat.add_assoc]; exact c1⟩
    · obtain ⟨i, hi, rfl⟩ := List.mem_map.1 hfm
      exact (hq i (List.mem_range.1 hi)).2.2

set_option maxRecDepth 100000 in
/-- A file that came in. -/
theorem open_file {t : TypeId} {W : World} {base : Nat} {v : Value} {d : DataW H} {p : List MemPlace} {f0 f1 : Field} (ht : Tryz.prog.underlying t = some (.struct #[f0, f1])) (o0 : f0.offset = 0) (o1 : f1.offset = 1) (t0 : f0.type = 9) (t1 : f1.type = 9) (hc : Tryz.prog.cellsOf t = 2)
    (hval : Value.okWide Tryz.prog W .any base t v) (h : DataW.Trod enc Tryz.prog W 0 (fun _ => true) true t v d p) :
    ∃ f : M.Fi, v = fv f ∧ f.1.length ≤ maxLen ∧ f.2.length ≤ maxLen := by
  obtain ⟨fuel, hf⟩ := h
  obtain ⟨cs, rfl, hcs⟩ := okWide_struct ht hval
  obtain ⟨y0, y1, n, _, hl, r0, r1⟩ := trod_struct2 ht hf
  rw [hc] at hcs
  obtain ⟨l⟩ := cs
  match l, hcs with
  | [u0, u1], _ =>
    rw [t0, o0, string_cells] at r0
    rw [t1, o1, string_cells] at r1
    obtain ⟨s0, e0, _, z0⟩ := DataW.trod_string Tryz.underlying9 r0
    obtain ⟨s1, e1, _, z1⟩ := DataW.trod_string Tryz.underlying9 r1
    have e0' : u0 = .string s0 := by simpa [Value.cells] using e0
    have e1' : u1 = .string s1 := by simpa [Value.cells] using e1
    refine ⟨(s0.data.toList, s1.data.toList), ?_, by simpa using z0, by simpa using z1⟩
    rw [e0', e1']
end
end Go.Proofs.YtabcobadglgfkaaGreatDoor

/- The program's names and paths. -/
namespace Go.Proofs.YtabcobadglgfkaaGreatDoor
open Go.RowKit

theorem name_no {s : List UInt8} {k : Nat} (hk : k < s.length) (h : M.nameByte s[k] = false) : M.name s = 14 := by
  unfold M.name
  rw [if_neg]
  rintro ⟨_, _, h3⟩
  rw [List.all_eq_true.1 h3 _ (List.getElem_mem hk)] at h
  cases h
theorem name_yes {s : List UInt8} (h0 : 1 ≤ s.length) (h1 : s.length ≤ 16) (h : ∀ j (hj : j < s.length), M.nameByte s[j] = true) : M.name s = 0 := by
  unfold M.name
  rw [if_pos]
  refine ⟨h0, h1, List.all_eq_true.2 fun x hx => ?_⟩
  obtain ⟨j, hj, rfl⟩ := List.getElem_of_mem hx
  exact h j hj

/-- The parts of a text, as strings.Split gives them. -/
def parts (s : List UInt8) : List ByteArray := Lib.splitB ⟨⟨[47]⟩⟩ 0 (Lib.countB ⟨⟨s⟩⟩ ⟨⟨[47]⟩⟩) ⟨⟨s⟩⟩
theorem parts_scan (s : List UInt8) : ((parts s).all fun b => M.okPart b.data.toList) = M.scan [] s := by
  have h := Lib.splitB_data ⟨⟨[47]⟩⟩ 0 (Lib.countB ⟨⟨s⟩⟩ ⟨⟨[47]⟩⟩) ⟨⟨s⟩⟩
  rw [← M.parts_all s.length s (Nat.le_refl _)]
  show _ = (Lib.splitK (⟨⟨[47]⟩⟩ : ByteArray).data.toList 0 (Lib.countB ⟨⟨s⟩⟩ ⟨⟨[47]⟩⟩) (⟨⟨s⟩⟩ : ByteArray).data.toList).all M.okPart
  rw [← h, List.all_map]
  rfl
theorem parts_len (s : List UInt8) : (parts s).length = Lib.countB ⟨⟨s⟩⟩ ⟨⟨[47]⟩⟩ + 1 := Lib.splitB_all ⟨⟨[47]⟩⟩ (by decide) 0 _ ⟨⟨s⟩⟩ rfl
theorem parts_small (n : Nat) (sep : ByteArray) (save : Nat) : ∀ (k : Nat) (s : ByteArray), s.size ≤ n → ∀ b ∈ Lib.splitB sep save k s, b.size ≤ n
  | 0, s, h, b, hb => by
      rw [Lib.splitB_zero, List.mem_singleton] at hb
      rw [hb]; exact h
  | k + 1, s, h, b, hb => by
      unfold Lib.splitB at hb
      split at hb
      · rw [List.mem_singleton] at hb
        rw [hb]; exact h
      · rcases List.mem_cons.1 hb with rfl | hb
        · rw [ByteArray.size_extract]; omega
        · exact parts_small n sep save k _ (by rw [ByteArray.size_extract]; omega) b hb

set_option maxHeartbeats 1000000 in
set_option maxRecDepth 100000 in
theorem path_any (s : List UInt8) (hl : s.length ≤ maxLen) (w : World) (hm : Mx w) :
    Calls Tryz.prog 78 #[S s] w fun e w' => e = .returned (.int .i64 (M.path s)) ∧ Old w w' := by
  unfold maxLen at hl
  have hsz := size_mk s
  by_cases h1 : 48 < s.length
  · go_enter Tryz.func78, Tryz.ntmps78
    go_wp2
    go_ret
    exact ⟨ret_int (by unfold M.path; rw [if_neg (by omega)]), Below.refl _ _⟩
  obtain ⟨m, hm⟩ := hm
  have HS := Lib.hid (Tryz.strings_Split ⟨⟨s⟩⟩ ⟨⟨[47]⟩⟩ m w (by rw [hsz]; omega) hm (by decide))
  have hps := parts_scan s
  have hpl := parts_len s
  have hsm := parts_small 48 ⟨⟨[47]⟩⟩ 0 (Lib.countB ⟨⟨s⟩⟩ ⟨⟨[47]⟩⟩) ⟨⟨s⟩⟩ (by rw [hsz]; omega)
  have hcl : Lib.countB ⟨⟨s⟩⟩ ⟨⟨[47]⟩⟩ ≤ s.length + 1 := Lib.count_le _ _
  rw [← parts] at hsm HS
  generalize parts s = ps at *
  generalize Lib.countB ⟨⟨s⟩⟩ ⟨⟨[47]⟩⟩ = n at *
  have hpa : M.path s = if (ps.all fun b => M.okPart b.data.toList) = true then 0 else 13 := by
    unfold M.path
    rw [hps]
    by_cases h : M.scan [] s = true
    · rw [if_pos ⟨by omega, h⟩, if_pos h]
    · rw [if_neg (fun x => h x.2), if_neg h]
  obtain ⟨w1, ew1, hb1, ho1⟩ : ∃ w1, w.alloc (.cells (ps.map Value.string).toArray 9) = w1 ∧ Blk w1 w.heap.size (ps.map Value.string).toArray 9 ∧ Old w w1 := ⟨_, rfl, Blk.new w _ _, Old.alloc w _⟩
  rw [ew1] at HS
  clear ew1 hm hps
  have HPA := Lib.hid hpa
  have HB1 := Lib.hid hb1
  have HO1 := Lib.hid ho1
  have HSM := Lib.hid hsm
  clear hpa hb1 ho1 hsm
  go_enter Tryz.func78, Tryz.ntmps78
  go_wp2_with ((with_reducible refine HS.out.mono ?_); rintro e w2 ⟨rfl, rfl⟩)
  go_loopw [11] (fun i wr => ∃ k : Nat, k ≤ n + 1 ∧ i = .int .i64 k ∧ wr = w2 ∧ Hid (∀ j (hj : j < ps.length), j < k → M.okPart ps[j].data.toList = true)) (fun i _ => n + 1 - (intOf i).toNat)
  case atStart => exact ⟨0, Nat.zero_le _, rfl, rfl, Lib.hid (fun j _ h => absurd h (Nat.not_lt_zero _))⟩
  case round =>
    obtain ⟨k, hk, rfl, rfl, hall⟩ := hrel
    by_cases hlt : k < n + 1
    · have hkp : k < ps.length := by omega
      have hcell := HB1.out.cellN k (v := .string ps[k]) (by simp [hkp])
      have hpk : ps[k].data.toList.length ≤ 1099511627776 := by
        have := HSM.out ps[k] (List.getElem_mem hkp)
        have e : ps[k].data.toList.length = ps[k].size := by simp
        omega
      have HI := Lib.hid (isPart_any ps[k].data.toList hpk wr)
      clear hpk
      have e0 : (S ps[k].data.toList) = .string ps[k] := rfl
      rw [e0] at HI
      generalize hr : M.okPart ps[k].data.toList = r at HI
      have HR := Lib.hid hr
      clear hr e0
      generalize ps[k] = b at hcell HI
      cases r with
      | false =>
        go_wp2_with ((with_reducible refine HI.out.mono ?_); rintro e w1 ⟨rfl, rfl⟩)
        go_ret
        refine ⟨ret_int ?_, HO1.out⟩
        rw [HPA.out, if_neg]
        intro h
        have := List.all_eq_true.1 h ps[k] (List.getElem_mem hkp)
        rw [HR.out] at this
        cases this
      | true =>
        go_wp2_with ((with_reducible refine HI.out.mono ?_); rintro e w1 ⟨rfl, rfl⟩)
        go_roundw
        case rel =>
          refine ⟨k + 1, by omega, by go_num, trivial, Lib.hid (fun j hj hjk => ?_)⟩
          by_cases he : j = k
          · subst he; exact HR.out
          · exact hall.out j hj (by omega)
        case measure => simp [intOf]; omega
    · obtain rfl : k = n + 1 := by omega
      go_wp2
      go_ret
      refine ⟨ret_int ?_, HO1.out⟩
      rw [HPA.out, if_pos]
      refine List.all_eq_true.2 fun x hx => ?_
      obtain ⟨j, hj, rfl⟩ := List.getElem_of_mem hx
      exact hall.out j hj (by omega)
end Go.Proofs.YtabcobadglgfkaaGreatDoor

/- The program's tests of one file, and the search for the first file of a kind. -/
namespace Go.Proofs.YtabcobadglgfkaaGreatDoor
open Go.RowKit

/-- What is asked of a test that is handed on: whatever world has come of w, it answers p and leaves all that was there. -/
def Tests (g : Nat) (lb : Array Value) (p : M.Fi → Bool) (ok : M.Fi → Prop) (w : World) : Prop :=
  ∀ (W : World) (f : M.Fi), ok f → Old w W → Calls Tryz.prog g (#[fv f] ++ lb) W fun e w' => e = .returned (.bool (p f)) ∧ Old W w'

def Small (f : M.Fi) : Prop := f.1.length ≤ 1099511627776 ∧ f.2.length ≤ 1099511627776

theorem hasKin1 (s : List UInt8) (hs : s.length ≤ 1099511627776) (b : Nat) (w : World) (hc : w.cell? ⟨b, 0, none⟩ = some (S s)) :
    Tests 99 #[.pointer (some ⟨b, 0, none⟩)] (fun g => M.below s g.1 || M.below g.1 s) Small w := fun W f hf ho => by
  have hb := World.block_lt_of_cell? _ _ hc
  have hcW : ∀ o, (W.alloc o).cell? ⟨b, 0, none⟩ = some (S s) := fun o => (((ho.trans (Old.alloc W o))).cell (p := ⟨b, 0, none⟩) hb).trans hc
  have H1 := Lib.hid (fun w1 => isBelow_any s f.1 hs hf.1 w1)
  have H2 := Lib.hid (fun w1 => isBelow_any f.1 s hf.1 hs w1)
  clear hc ho hb
  show Calls Tryz.prog 99 #[.agg #[.string ⟨⟨f.1⟩⟩, .string ⟨⟨f.2⟩⟩], .pointer (some ⟨b, 0, none⟩)] W _
  obtain ⟨fp, fd⟩ := f
  simp only at H1 H2 ⊢
  generalize M.below s fp = r1 at *
  generalize M.below fp s = r2 at *
  cases r1 with
  | true =>
    go_enter Tryz.func99, Tryz.ntmps99
    go_wp2_with ((with_reducible refine (H1.out _).mono ?_); rintro e w1 ⟨rfl, rfl⟩)
    go_ret
    exact ⟨rfl, Old.alloc _ _⟩
  | false =>
    go_enter Tryz.func99, Tryz.ntmps99
    go_wp2_with (first
      | ((with_reducible refine (H1.out _).mono ?_); rintro e w1 ⟨rfl, rfl⟩)
      | ((with_reducible refine (H2.out _).mono ?_); rintro e w1 ⟨rfl, rfl⟩))
    go_ret
    exact ⟨rfl, Old.alloc _ _⟩

theorem beq_list (a b : List UInt8) : (a == b) = decide (a = b) := by rw [Bool.eq_iff_iff]; simp

theorem find1 (s : List UInt8) (b : Nat) (w : World) (hc : w.cell? ⟨b, 0, none⟩ = some (S s)) :
    Tests 142 #[.pointer (some ⟨b, 0, none⟩)] (fun g => g.1 == s) (fun _ => True) w := fun W f _ ho => by
  have hb := World.block_lt_of_cell? _ _ hc
  have hcW : ∀ o, (W.alloc o).cell? ⟨b, 0, none⟩ = some (S s) := fun o => (((ho.trans (Old.alloc W o))).cell (p := ⟨b, 0, none⟩) hb).trans hc
  clear hc ho hb
  show Calls Tryz.prog 142 #[.agg #[.string ⟨⟨f.1⟩⟩, .string ⟨⟨f.2⟩⟩], .pointer (some ⟨b, 0, none⟩)] W _
  obtain ⟨fp, fd⟩ := f
  simp only
  go_enter Tryz.func142, Tryz.ntmps142
  go_wp2
  go_ret
  exact ⟨rfl, Old.alloc _ _⟩

theorem under1 (s : List UInt8) (hs : s.length ≤ 1099511627776) (b : Nat) (w : World) (hc : w.cell? ⟨b, 0, none⟩ = some (S s)) :
    Tests 68 #[.pointer (some ⟨b, 0, none⟩)] (fun g => !M.below g.1 s) Small w := fun W f hf ho => by
  have hb := World.block_lt_of_cell? _ _ hc
  have hcW : ∀ o, (W.alloc o).cell? ⟨b, 0, none⟩ = some (S s) := fun o => (((ho.trans (Old.alloc W o))).cell (p := ⟨b, 0, none⟩) hb).trans hc
  have H2 := Lib.hid (fun w1 => isBelow_any f.1 s hf.1 hs w1)
  clear hc ho hb
  show Calls Tryz.prog 68 #[.agg #[.string ⟨⟨f.1⟩⟩, .string ⟨⟨f.2⟩⟩], .pointer (some ⟨b, 0, none⟩)] W _
  obtain ⟨fp, fd⟩ := f
  simp only at H2 ⊢
  generalize M.below fp s = r2 at *
  go_enter Tryz.func68, Tryz.ntmps68
  go_wp2_with ((with_reducible refine (H2.out _).mono ?_); rintro e w1 ⟨rfl, rfl⟩)
  go_ret
  exact ⟨rfl, Old.alloc _ _⟩

end Go.Proofs.YtabcobadglgfkaaGreatDoor

/- The search for the first file of a kind, and what leans on it. -/
namespace Go.Proofs.YtabcobadglgfkaaGreatDoor
open Go.RowKit

/-- The place of the first file of a kind, or -1. -/
def idx (p : M.Fi → Bool) (fs : List M.Fi) : Int := match fs.findIdx? p with | some i => i | none => -1
theorem idx_hit {p : M.Fi → Bool} {fs : List M.Fi} {k : Nat} (hk : k < fs.length) (h : p fs[k] = true) (hn : ∀ j (hj : j < fs.length), j < k → p fs[j] = false) : idx p fs = k := by
  have : fs.findIdx? p = some k := List.findIdx?_eq_some_iff_getElem.2 ⟨hk, h, fun j hj => by rw [hn j (by omega) hj]; simp⟩
  unfold idx
  rw [this]
theorem idx_miss {p : M.Fi → Bool} {fs : List M.Fi} (hn : ∀ j (hj : j < fs.length), p fs[j] = false) : idx p fs = -1 := by
  have : fs.findIdx? p = none := List.findIdx?_eq_none_iff.2 fun x hx => by
    obtain ⟨j, hj, rfl⟩ := List.getElem_of_mem hx
    exact hn j hj
  unfold idx
  rw [this]
theorem idx_cases (p : M.Fi → Bool) (fs : List M.Fi) : (idx p fs = -1 ∧ ∀ f ∈ fs, p f = false) ∨ ∃ (k : Nat) (hk : k < fs.length), idx p fs = k ∧ p fs[k] = true ∧ ∀ j (hj : j < fs.length), j < k → p fs[j] = false := by
  unfold idx
  cases h : fs.findIdx? p with
  | none => exact Or.inl ⟨rfl, fun f hf => List.findIdx?_eq_none_iff.1 h f hf⟩
  | some k =>
    obtain ⟨hk, h1, h2⟩ := List.findIdx?_eq_some_iff_getElem.1 h
    exact Or.inr ⟨k, hk, rfl, h1, fun j hj hjk => by simpa using h2 j hjk⟩
theorem idx_any (p : M.Fi → Bool) (fs : List M.Fi) : decide (0 ≤ idx p fs) = fs.any p := by
  rcases idx_cases p fs with ⟨h1, h2⟩ | ⟨k, hk, h1, h2, _⟩
  · rw [h1, (List.any_eq_false).2 (fun x hx => by rw [h2 x hx]; simp)]
    rfl
  · rw [h1, (List.any_eq_true).2 ⟨_, List.getElem_mem hk, h2⟩]
    exact decide_eq_true (by omega)

set_option maxHeartbeats 1000000 in
set_option maxRecDepth 100000 in
theorem indexFunc_any (g : Nat) (lb : Array Value) (eg : ∀ args w, (callFunc g args).run Tryz.prog w = .ok (.enter g args) w) (p : M.Fi → Bool) (ok : M.Fi → Prop) (v : Value) (fs : List M.Fi) (w : World) (h : Fl w v fs) (hok : ∀ f ∈ fs, ok f)
    (hp : Tests g lb p ok w) (hlen : fs.length ≤ maxLen) :
    Calls Tryz.prog 137 #[v, .func (.func g) #[] lb] w fun e w' => e = .returned (.int .i64 (idx p fs)) ∧ Old w w' := by
  unfold maxLen at hlen
  obtain ⟨pp, cap, rfl⟩ := h.len
  have H := Lib.hid h
  have HP := Lib.hid hp
  have HOK := Lib.hid hok
  clear h hp hok
  go_enter Tryz.func137, Tryz.ntmps137
  go_wp2
  go_loopw [5, 8] (fun _ i wr => ∃ k : Nat, k ≤ fs.length ∧ i = .int .i64 k ∧ Old w wr ∧ Hid (∀ j (hj : j < fs.length), j < k → p fs[j] = false)) (fun _ i _ => fs.length - (intOf i).toNat)
  case atStart => exact ⟨0, Nat.zero_le _, rfl, Below.refl _ _, Lib.hid (fun j _ h => absurd h (Nat.not_lt_zero _))⟩
  case round =>
    obtain ⟨k, hk, rfl, ho, hall⟩ := hrel
    have HO := Lib.hid ho
    clear ho
    by_cases hlt : k < fs.length
    · obtain ⟨b, off, rfl, hb, hc⟩ := (H.out.old HO.out).at (by intro h; rw [h] at hlt; exact absurd hlt (Nat.not_lt_zero _))
      obtain ⟨hc0, hc1⟩ := hc k hlt
      have HC := Lib.hid (HP.out wr fs[k] (HOK.out _ (List.getElem_mem hlt)) HO.out)
      clear hc
      generalize hr : p fs[k] = r at HC
      have HR := Lib.hid hr
      clear hr
      unfold fv at HC
      generalize fs[k] = f at hc0 hc1 HC
      cases r with
      | true =>
        go_wp2_with (go_at_fn g; refine HC.out.mono ?_; rintro e w1 ⟨rfl, ho1⟩)
        go_ret
        exact ⟨ret_int (idx_hit hlt HR.out hall.out).symm, HO.out.trans ho1⟩
      | false =>
        go_wp2_with (go_at_fn g; refine HC.out.mono ?_; rintro e w1 ⟨rfl, ho1⟩)
        go_roundw
        case rel =>
          refine ⟨k + 1, by omega, by go_num, HO.out.trans ho1, Lib.hid (fun j hj hjk => ?_)⟩
          by_cases he : j = k
          · subst he; exact HR.out
          · exact hall.out j hj (by omega)
        case measure => simp [intOf]; omega
    · obtain rfl : k = fs.length := by omega
      go_wp2
      go_ret
      exact ⟨ret_int (idx_miss (fun j hj => hall.out j hj hj)).symm, HO.out⟩
end Go.Proofs.YtabcobadglgfkaaGreatDoor

/- The program's tests of kin and of one file, and what stands at a path. -/
namespace Go.Proofs.YtabcobadglgfkaaGreatDoor
open Go.RowKit

theorem enter_kin : ∀ args w, (callFunc 99 args).run Tryz.prog w = .ok (.enter 99 args) w := enters_of Tryz.func99 (by kernel_rfl) rfl
theorem enter_find : ∀ args w, (callFunc 142 args).run Tryz.prog w = .ok (.enter 142 args) w := enters_of Tryz.func142 (by kernel_rfl) rfl
theorem enter_under : ∀ args w, (callFunc 68 args).run Tryz.prog w = .ok (.enter 68 args) w := enters_of Tryz.func68 (by kernel_rfl) rfl
theorem containsFunc_any (g : Nat) (lb : Array Value) (eg : ∀ args w, (callFunc g args).run Tryz.prog w = .ok (.enter g args) w) (p : M.Fi → Bool) (ok : M.Fi → Prop) (v : Value) (fs : List M.Fi) (w : World) (h : Fl w v fs) (hok : ∀ f ∈ fs, ok f)
    (hp : Tests g lb p ok w) (hlen : fs.length ≤ maxLen) :
    Calls Tryz.prog 98 #[v, .func (.func g) #[] lb] w fun e w' => e = .returned (.bool (fs.any p)) ∧ Old w w' := by
  have HI := Lib.hid (indexFunc_any g lb eg p ok v fs w h hok hp hlen)
  have HA := Lib.hid (idx_any p fs)
  clear h hp hok eg
  generalize idx p fs = r at HI HA
  go_enter Tryz.func98, Tryz.ntmps98
  go_wp2_with ((with_reducible refine HI.out.mono ?_); rintro e w1 ⟨rfl, ho1⟩)
  go_ret
  exact ⟨ret_bool HA.out, ho1⟩

/-- Of files that came in: none is too great. -/
def Alls (fs : List M.Fi) : Prop := fs.length ≤ 1099511627776 ∧ ∀ f ∈ fs, Small f

theorem hasKin_any (v : Value) (fs : List M.Fi) (s : List UInt8) (w : World) (h : Fl w v fs) (hf : Alls fs) (hs : s.length ≤ 1099511627776) :
    Calls Tryz.prog 63 #[v, S s] w fun e w' => e = .returned (.bool (M.kin fs s)) ∧ Old w w' := by
  have hb : (w.alloc (.cells #[S s] 9)).cell? ⟨w.heap.size, 0, none⟩ = some (S s) := (Blk.new w #[S s] 9).cellN 0 rfl
  have HC := Lib.hid (containsFunc_any 99 #[.pointer (some ⟨w.heap.size, 0, none⟩)] enter_kin (fun g => M.below s g.1 || M.below g.1 s) Small v fs _ (h.old (Old.alloc w (.cells #[S s] 9))) hf.2 (hasKin1 s hs w.heap.size _ hb) (by have := hf.1; unfold maxLen; omega))
  clear hb h
  go_enter Tryz.func63, Tryz.ntmps63
  go_wp2_with ((with_reducible refine HC.out.mono ?_); rintro e w1 ⟨rfl, ho1⟩)
  go_ret
  exact ⟨rfl, (Old.alloc w _).trans ho1⟩

theorem find_any (v : Value) (fs : List M.Fi) (s : List UInt8) (w : World) (h : Fl w v fs) (hlen : fs.length ≤ maxLen) :
    Calls Tryz.prog 105 #[v, S s] w fun e w' => e = .returned (.int .i64 (idx (fun g => g.1 == s) fs)) ∧ Old w w' := by
  have hb : (w.alloc (.cells #[S s] 9)).cell? ⟨w.heap.size, 0, none⟩ = some (S s) := (Blk.new w #[S s] 9).cellN 0 rfl
  have HC := Lib.hid (indexFunc_any 142 #[.pointer (some ⟨w.heap.size, 0, none⟩)] enter_find (fun g => g.1 == s) (fun _ => True) v fs _ (h.old (Old.alloc w (.cells #[S s] 9))) (fun _ _ => trivial) (find1 s w.heap.size _ hb) hlen)
  clear hb h
  go_enter Tryz.func105, Tryz.ntmps105
  go_wp2_with ((with_reducible refine HC.out.mono ?_); rintro e w1 ⟨rfl, ho1⟩)
  go_ret
  exact ⟨rfl, (Old.alloc w _).trans ho1⟩

theorem checkFile_any (f : M.Fi) (h1 : f.1.length ≤ maxLen) (h2 : f.2.length ≤ maxLen) (w : World) (hm : Mx w) :
    Calls Tryz.prog 62 #[fv f] w fun e w' => e = .returned (.int .i64 (M.chk1 f)) ∧ Old w w' := by
  obtain ⟨fp, fd⟩ := f
  simp only at h1 h2
  have HP := Lib.hid (path_any fp h1 _ (hm.old (Old.alloc w (.cells #[S fp, S fd] 54))))
  have hb1 : (w.alloc (.cells #[S fp, S fd] 54)).cell? ⟨w.heap.size, 1, none⟩ = some (S fd) := (Blk.new w #[S fp, S fd] 54).cellN 1 rfl
  have hb := World.block_lt_of_cell? _ _ hb1
  have HK := Lib.hid (show M.chk1 (fp, fd) = if M.path fp ≠ 0 then 13 else if fd.length > 2048 then 15 else 0 from rfl)
  have hpr : M.path fp = 0 ∨ M.path fp = 13 := by unfold M.path; split <;> simp
  have hsz := size_mk fd
  unfold maxLen at h2
  clear h1 hm
  show Calls Tryz.prog 62 #[.agg #[.string ⟨⟨fp⟩⟩, .string ⟨⟨fd⟩⟩]] w _
  rcases hpr with hpr | hpr
  · rw [hpr] at HP HK
    go_enter Tryz.func62, Tryz.ntmps62
    go_wp2_with ((with_reducible refine HP.out.mono ?_); rintro e w1 ⟨rfl, ho1⟩; have hc1 : w1.cell? ⟨w.heap.size, 1, none⟩ = some (S fd) := (ho1.cell (p := ⟨w.heap.size, 1, none⟩) hb).trans hb1)
    · go_ret
      exact ⟨ret_int (by rw [HK.out, if_neg (by decide), if_pos (by omega)]), (Old.alloc w _).trans ho1⟩
    · go_ret
      exact ⟨ret_int (by rw [HK.out, if_neg (by decide), if_neg (by omega)]), (Old.alloc w _).trans ho1⟩
  · rw [hpr] at HP HK
    go_enter Tryz.func62, Tryz.ntmps62
    go_wp2_with ((with_reducible refine HP.out.mono ?_); rintro e w1 ⟨rfl, ho1⟩)
    go_ret
    exact ⟨ret_int (by rw [HK.out]; rfl), (Old.alloc w _).trans ho1⟩

theorem get_hit {fs : List M.Fi} {s : List UInt8} {k : Nat} (hk : k < fs.length) (h : idx (fun g => g.1 == s) fs = k) : M.get fs s = (fs[k].2, true) := by
  rcases idx_cases (fun g => g.1 == s) fs with ⟨h1, _⟩ | ⟨j, hj, h1, h2, h3⟩
  · rw [h] at h1; omega
  · obtain rfl : j = k := by rw [h] at h1; omega
    unfold M.get
    have : fs.find? (fun f => f.1 == s) = some fs[j] := by
      rw [List.find?_eq_some_iff_getElem]
      exact ⟨h2, j, hj, rfl, fun i hi => by rw [h3 i (by omega) hi]; rfl⟩
    rw [this]
theorem get_miss {fs : List M.Fi} {s : List UInt8} (h : idx (fun g => g.1 == s) fs = -1) : M.get fs s = ([], false) := by
  rcases idx_cases (fun g => g.1 == s) fs with ⟨_, h1⟩ | ⟨j, hj, h1, _⟩
  · unfold M.get
    have : fs.find? (fun f => f.1 == s) = none := List.find?_eq_none.2 fun x hx => by rw [h1 x hx]; simp
    rw [this]
  · rw [h] at h1; omega

theorem get_any (v : Value) (fs : List M.Fi) (s : List UInt8) (w : World) (h : Fl w v fs) (hlen : fs.length ≤ maxLen) :
    Calls Tryz.prog 74 #[v, S s] w fun e w' => e = .returned (.tuple #[S (M.get fs s).1, .bool (M.get fs s).2]) ∧ Old w w' := by
  have HF := Lib.hid (find_any v fs s w h hlen)
  have H := Lib.hid h
  obtain ⟨p, cap, rfl⟩ := h.len
  unfold maxLen at hlen
  clear h
  rcases idx_cases (fun g => g.1 == s) fs with ⟨h1, _⟩ | ⟨k, hk, h1, _, _⟩
  · rw [get_miss h1]
    rw [h1] at HF
    clear h1
    go_enter Tryz.func74, Tryz.ntmps74
    go_wp2_with ((with_reducible refine HF.out.mono ?_); rintro e w1 ⟨rfl, ho1⟩)
    go_ret2
    exact ⟨rfl, ho1⟩
  · rw [get_hit hk h1]
    rw [h1] at HF
    clear h1
    have hc := fun (w1 : World) (ho : Old w w1) => ((H.out.old ho).at (by intro h; rw [h] at hk; exact absurd hk (Nat.not_lt_zero _)))
    have hne : ¬ ((k : Int) < 0) := by omega
    go_enter Tryz.func74, Tryz.ntmps74
    go_wp2_with ((with_reducible refine HF.out.mono ?_); rintro e w1 ⟨rfl, ho1⟩; obtain ⟨b, off, rfl, hb, hx⟩ := hc w1 ho1; have hx1 := (hx k hk).2; clear hx hc)
    go_ret2
    exact ⟨rfl, ho1⟩
end Go.Proofs.YtabcobadglgfkaaGreatDoor

/- The program's lists with some files left out. -/
namespace Go.Proofs.YtabcobadglgfkaaGreatDoor
open Go.RowKit

theorem filter_take {q : M.Fi → Bool} {fs : List M.Fi} {k : Nat} (hk : k < fs.length) : (fs.take (k + 1)).filter q = (fs.take k).filter q ++ (if q fs[k] then [fs[k]] else []) := by
  rw [List.take_succ_eq_append_getElem hk, List.filter_append]
  congr 1
  cases h : q fs[k] <;> simp [h]
theorem filter_small {q : M.Fi → Bool} {fs : List M.Fi} (k : Nat) : ((fs.take k).filter q).length ≤ k := by
  have := List.length_filter_le q (fs.take k)
  rw [List.length_take] at this
  omega

set_option maxHeartbeats 2000000 in
set_option maxRecDepth 100000 in
theorem leaveOut_any (g : Nat) (lb : Array Value) (eg : ∀ args w, (callFunc g args).run Tryz.prog w = .ok (.enter g args) w) (p : M.Fi → Bool) (v : Value) (fs : List M.Fi) (w : World) (h : Fl w v fs) (hf : Alls fs)
    (hp : Tests g lb p Small w) :
    Calls Tryz.prog 67 #[v, .func (.func g) #[] lb] w fun e w' => ∃ u, e = .returned u ∧ Own w.heap.size w' u (fs.filter fun f => !p f) ∧ Old w w' := by
  obtain ⟨i0, hi, hz0, hz1, hz2⟩ := info_parts infoFile
  obtain ⟨hlen, hok⟩ := hf
  obtain ⟨pp, cap, rfl⟩ := h.len
  have H := Lib.hid h
  have HP := Lib.hid hp
  have HOK := Lib.hid hok
  clear h hp hok
  go_enter Tryz.func67, Tryz.ntmps67
  go_wp2
  go_loopw [5, 10] (fun o i wr => ∃ k : Nat, k ≤ fs.length ∧ i = .int .i64 k ∧ Own w.heap.size wr o ((fs.take k).filter fun f => !p f) ∧ Old w wr) (fun _ i _ => fs.length - (intOf i).toNat)
  case atStart => exact ⟨0, Nat.zero_le _, rfl, Own.nil _ _, Below.refl _ _⟩
  case round =>
    obtain ⟨k, hk, rfl, hown, ho⟩ := hrel
    have HO := Lib.hid ho
    have HOWN := Lib.hid hown
    clear ho hown
    by_cases hlt : k < fs.length
    · obtain ⟨b, off, rfl, hb, hc⟩ := (H.out.old HO.out).at (by intro h; rw [h] at hlt; exact absurd hlt (Nat.not_lt_zero _))
      obtain ⟨hc0, hc1⟩ := hc k hlt
      have HC := Lib.hid (HP.out (wr.alloc (.cells #[S fs[k].1, S fs[k].2] 54)) fs[k] (HOK.out _ (List.getElem_mem hlt)) (HO.out.trans (Old.alloc _ _)))
      have HFT := Lib.hid (filter_take (q := fun f => !p f) hlt)
      have hsm := filter_small (q := fun f => !p f) (fs := fs) k
      have hn0 := (Blk.new wr #[S fs[k].1, S fs[k].2] 54).cellN 0 rfl
      have hn1 := (Blk.new wr #[S fs[k].1, S fs[k].2] 54).cellN 1 rfl
      have HN0 := Lib.hid hn0
      have HN1 := Lib.hid hn1
      clear hc hn0 hn1
      generalize hr : p fs[k] = r at HC HFT
      clear hr
      unfold fv at HC
      generalize fs[k] = f at *
      generalize (fs.take k).filter (fun f => !p f) = acc at *
      have HOA := Lib.hid (Old.alloc wr (.cells #[S f.1, S f.2] 54))
      cases r with
      | true =>
        go_wp2_with (go_at_fn g; refine HC.out.mono ?_; rintro e w1 ⟨rfl, ho1⟩; have hd0 : w1.cell? ⟨wr.heap.size, 0, none⟩ = some (S f.1) := (ho1.cell (p := ⟨wr.heap.size, 0, none⟩) (by simp)).trans HN0.out; have hd1 : w1.cell? ⟨wr.heap.size, 1, none⟩ = some (S f.2) := (ho1.cell (p := ⟨wr.heap.size, 1, none⟩) (by simp)).trans HN1.out)
        go_roundw
        case rel =>
          have hft := HFT.out
          simp only [Bool.not_true, Bool.false_eq_true, if_false, List.append_nil] at hft
          exact ⟨k + 1, by omega, by go_num, by rw [hft]; exact HOWN.out.old (HOA.out.trans ho1), HO.out.trans (HOA.out.trans ho1)⟩
        case measure => simp [intOf]; omega
      | false =>
        go_wp2_with (go_at_fn g; fail)
        refine HC.out.mono ?_
        rintro e w1 ⟨rfl, ho1⟩
        have hd0 : w1.cell? ⟨wr.heap.size, 0, none⟩ = some (S f.1) := (ho1.cell (p := ⟨wr.heap.size, 0, none⟩) (by simp)).trans HN0.out
        have hd1 : w1.cell? ⟨wr.heap.size, 1, none⟩ = some (S f.2) := (ho1.cell (p := ⟨wr.heap.size, 1, none⟩) (by simp)).trans HN1.out
        have hs1 : w.heap.size ≤ w1.heap.size := Nat.le_trans HO.out.size (HOA.out.trans ho1).size
        have hown1 : Own w.heap.size (w1.alloc (.cells #[S f.1, S f.2] 54)) u5 acc := HOWN.out.old ((HOA.out.trans ho1).trans (Old.alloc _ _))
        have HNW := Lib.hid (World.news_of_block (heap_alloc_new w1 (.cells #[S f.1, S f.2] 54)))
        have HON := Lib.hid ((HO.out.trans (HOA.out.trans ho1)).trans (Old.alloc w1 (.cells #[S f.1, S f.2] 54)))
        go_wp2_with (at_builtin; refine wpList_append_own _ rfl _ _ 22 rfl w.heap.size 54 i0 _ 2 32 Tryz.underlying22 hi hz0 hz1 hz2 rfl (by decide) _ _ _ rfl hown1 ⟨w1.heap.size, 0, none⟩ 1 1 [S f.1, S f.2] rfl rfl HNW.out (by intro u hu; simp only [List.mem_cons, List.not_mem_nil, or_false] at hu; rcases hu with rfl | rfl <;> rfl) (by unfold maxLen; omega) (by omega) ?c5 ?_)
        case c5 => have : (w1.alloc (.cells #[S f.1, S f.2] 54)).heap.size = w1.heap.size + 1 := by simp
                   omega
        intro v' w2 hown2 hgrow _
        have hown3 : Own w.heap.size w2 v' (acc ++ [f]) := by
          show w2.ownsRow w.heap.size 54 2 v' (acc ++ [f]).length (cells (acc ++ [f]))
          rw [cells_append, cells_one, List.length_append]
          exact hown2
        have ho2 : Old w w2 := Keep.old ((Keep.of_old (S := fun _ => False) HON.out).grown hgrow (fun q hq => Or.inl (row_from hown1 q hq))) (fun _ _ h => h)
        have HOWN3 := Lib.hid hown3
        clear hown2 hown3 hown1
        go_wp2
        go_roundw
        case rel =>
          have hft := HFT.out
          simp only [Bool.not_false, if_true] at hft
          exact ⟨k + 1, by omega, by go_num, by rw [hft]; exact HOWN3.out, ho2⟩
        case measure => simp [intOf]; omega
    · obtain rfl : k = fs.length := by omega
      rw [List.take_of_length_le (Nat.le_refl _)] at HOWN
      go_wp2
      go_ret
      exact ⟨_, rfl, HOWN.out, HO.out⟩
end Go.Proofs.YtabcobadglgfkaaGreatDoor
