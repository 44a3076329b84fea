/- Merged of: TreeM TreeN El TreeD TreeB TreeE TreeF LaidT. -/
import Derived.Test.YtabcobadglgfkaaGreatDoorMF1
import Derived.Test.YtabcobadglgfkaaGreatDoorMP1
import Derived.Test.YtabcobadglgfkaaGreatDoorMB1
import Derived.Test.YtabcobadglgfkaaGreatDoorMB2
import Derived.Test.YtabcobadglgfkaaGreatDoorShelf
import Derived.Test.YtabcobadglgfkaaGreatDoorShelg
import Derived.Test.YtabcobadglgfkaaGreatDoorMF2
import Derived.Test.YtabcobadglgfkaaGreatDoorMC1
import Derived.Test.YtabcobadglgfkaaGreatDoorMB3
import Derived.Maps.OwnSet
import Derived.Maps.Views
import Derived.Maps.AppendAt
import Derived.StringKeys
import Derived.Sort.KeysCollected
import Derived.Lib.CutLaws
import Derived.Shelf.SlIter.Nil
import Derived.Sort.Walk0
/- What directories, their entries and digests are, in plain words on lists of bytes. Nothing of the program stands here. -/
namespace Go.Proofs.YtabcobadglgfkaaGreatDoor.M
open Go.Lib

/-- An entry: its name, whether it is a directory, its digest. -/
abbrev En := List UInt8 × Bool × List UInt8
/-- The part ahead of the first stroke, or all. -/
def head1 (p : List UInt8) : List UInt8 := p.takeWhile (· != 47)
theorem head1_ne {p : List UInt8} : ∀ c ∈ head1 p, c ≠ 47 := fun c hc => by
  have h := List.all_takeWhile (p := fun c : UInt8 => c != 47) (l := p)
  have := List.all_eq_true.1 h c hc
  simpa using this
theorem head1_all {p : List UInt8} (h : ∀ c ∈ p, c ≠ 47) : head1 p = p := by
  have := takeWhile_all (p := fun c : UInt8 => c != 47) p [] (fun c hc => by simpa using h c hc)
  simpa [head1] using this
theorem head1_at {a : List UInt8} (r : List UInt8) (h : ∀ c ∈ a, c ≠ 47) : head1 (a ++ 47 :: r) = a := by
  have := takeWhile_all (p := fun c : UInt8 => c != 47) a (47 :: r) (fun c hc => by simpa using h c hc)
  rw [head1, this, List.takeWhile_cons, if_neg (by decide), List.append_nil]

/-- Strictly rising, byte by byte. -/
def rising (l : List (List UInt8)) : Prop := l.Pairwise fun a b => bl a b = true
theorem rising_ext : ∀ {a b : List (List UInt8)}, rising a → rising b → (∀ x, x ∈ a ↔ x ∈ b) → a = b
  | [], [], _, _, _ => rfl
  | [], y :: b, _, _, h => absurd ((h y).2 (by simp)) (by simp)
  | x :: a, [], _, _, h => absurd ((h x).1 (by simp)) (by simp)
  | x :: a, y :: b, ha, hb, h => by
      have ha' := List.pairwise_cons.1 ha
      have hb' := List.pairwise_cons.1 hb
      have hxy : x = y := by
        rcases List.mem_cons.1 ((h x).1 (by simp)) with e | hx
        · exact e
        rcases List.mem_cons.1 ((h y).2 (by simp)) with e | hy
        · exact e.symm
        have h1 := hb'.1 x hx
        rw [bl_asymm (ha'.1 y hy)] at h1; cases h1
      subst hxy
      rw [rising_ext ha'.2 hb'.2 fun z => ?_]
      constructor
      · intro hz
        rcases List.mem_cons.1 ((h z).1 (by simp [hz])) with e | hz'
        · exact absurd e.symm (bl_ne (ha'.1 z hz))
        · exact hz'
      · intro hz
        rcases List.mem_cons.1 ((h z).2 (by simp [hz])) with e | hz'
        · exact absurd e.symm (bl_ne (hb'.1 z hz))
        · exact hz'

/-- A rising list with a text. -/
def insN : List (List UInt8) → List UInt8 → List (List UInt8)
  | [], n => [n]
  | m :: r, n => if bl m n = true then m :: insN r n else if m = n then m :: r else n :: m :: r
theorem mem_insN : ∀ (l : List (List UInt8)) (n x : List UInt8), x ∈ insN l n ↔ x = n ∨ x ∈ l
  | [], n, x => by simp [insN]
  | m :: r, n, x => by
      rw [insN]
      split
      · rw [List.mem_cons, mem_insN r n x, List.mem_cons]
        constructor
        · rintro (h | h | h)
          · exact Or.inr (Or.inl h)
          · exact Or.inl h
          · exact Or.inr (Or.inr h)
        · rintro (h | h | h)
          · exact Or.inr (Or.inl h)
          · exact Or.inl h
          · exact Or.inr (Or.inr h)
      · split
        · rename_i hmn
          subst hmn
          simp
        · simp
theorem rising_insN : ∀ {l : List (List UInt8)} (n : List UInt8), rising l → rising (insN l n)
  | [], n, _ => List.pairwise_singleton _ _
  | m :: r, n, h => by
      have h' := List.pairwise_cons.1 h
      rw [insN]
      split
      · rename_i hmn
        refine List.pairwise_cons.2 ⟨fun x hx => ?_, rising_insN n h'.2⟩
        rcases (mem_insN r n x).1 hx with rfl | hx
        · exact hmn
        · exact h'.1 x hx
      · split
        · exact h
        · rename_i h1 h2
          have hnm : bl n m = true := bl_total (by simpa using h1) h2
          refine List.pairwise_cons.2 ⟨fun x hx => ?_, h⟩
          rcases List.mem_cons.1 hx with rfl | hx
          · exact hnm
          · exact bl_trans hnm (h'.1 x hx)
/-- Texts, each once, rising. -/
def setOf (l : List (List UInt8)) : List (List UInt8) := l.foldl insN []
theorem foldl_insN : ∀ (l acc : List (List UInt8)), rising acc → rising (l.foldl insN acc) ∧ ∀ x, x ∈ l.foldl insN acc ↔ x ∈ acc ∨ x ∈ l
  | [], acc, h => ⟨h, fun x => by simp⟩
  | n :: l, acc, h => by
      have ih := foldl_insN l (insN acc n) (rising_insN n h)
      refine ⟨ih.1, fun x => ?_⟩
      rw [List.foldl_cons, ih.2 x, mem_insN, List.mem_cons]
      constructor
      · rintro ((h | h) | h)
        · exact Or.inr (Or.inl h)
        · exact Or.inl h
        · exact Or.inr (Or.inr h)
      · rintro (h | h | h)
        · exact Or.inl (Or.inr h)
        · exact Or.inl (Or.inl h)
        · exact Or.inr h
theorem rising_setOf (l : List (List UInt8)) : rising (setOf l) := (foldl_insN l [] List.Pairwise.nil).1
theorem mem_setOf (l : List (List UInt8)) (x : List UInt8) : x ∈ setOf l ↔ x ∈ l := by
  rw [setOf, (foldl_insN l [] List.Pairwise.nil).2 x]; simp
theorem setOf_ext {l : List (List UInt8)} {r : List (List UInt8)} (hr : rising r) (h : ∀ x, x ∈ r ↔ x ∈ l) : r = setOf l :=
  rising_ext hr (rising_setOf l) (fun x => by rw [h, mem_setOf])
theorem insN_same {l : List (List UInt8)} {n : List UInt8} (hl : rising l) (h : n ∈ l) : insN l n = l :=
  rising_ext (rising_insN n hl) hl fun x => by
    rw [mem_insN]
    exact ⟨fun hx => hx.elim (fun e => e ▸ h) id, Or.inr⟩

/-- The names of a directory's entries. -/
def names (fs : List Fi) : List (List UInt8) := setOf (fs.map fun f => head1 f.1)
theorem mem_names {fs : List Fi} {n : List UInt8} : n ∈ names fs ↔ ∃ f ∈ fs, head1 f.1 = n := by
  rw [names, mem_setOf, List.mem_map]
theorem names_ne {fs : List Fi} {n : List UInt8} (h : n ∈ names fs) : ∀ c ∈ n, c ≠ 47 := by
  obtain ⟨f, _, rfl⟩ := mem_names.1 h
  exact head1_ne
theorem insN_len (l : List (List UInt8)) (n : List UInt8) : (insN l n).length ≤ l.length + 1 := by
  induction l with
  | nil => simp [insN]
  | cons m r ih =>
    rw [insN]
    split
    · simp only [List.length_cons]; omega
    · split <;> simp
theorem foldl_insN_len : ∀ (l acc : List (List UInt8)), (l.foldl insN acc).length ≤ acc.length + l.length
  | [], acc => by simp
  | n :: l, acc => by
      have h1 := foldl_insN_len l (insN acc n)
      have h2 := insN_len acc n
      rw [List.foldl_cons, List.length_cons]; omega
theorem setOf_len (l : List (List UInt8)) : (setOf l).length ≤ l.length := by
  have := foldl_insN_len l []
  simpa [setOf] using this
theorem names_len (fs : List Fi) : (names fs).length ≤ fs.length := by
  have := setOf_len (fs.map fun f => head1 f.1)
  simpa [names] using this

/-- The files of one first part, in their order. -/
def grp (fs : List Fi) (n : List UInt8) : List Fi := fs.filter fun f => head1 f.1 == n
theorem get_grp {fs : List Fi} {n : List UInt8} (h : ∀ c ∈ n, c ≠ 47) : get (grp fs n) n = get fs n := by
  have e : (grp fs n).find? (fun f => f.1 == n) = fs.find? (fun f => f.1 == n) := by
    rw [grp, List.find?_filter]
    congr 1
    funext f
    by_cases hf : f.1 = n
    · rw [hf, head1_all h]; simp
    · simp [hf]
  rw [get, get, e]
theorem under_grp {fs : List Fi} {n : List UInt8} (h : ∀ c ∈ n, c ≠ 47) : under (grp fs n) n = under fs n := by
  rw [under, under, grp, List.filter_filter]
  congr 1
  congr 1
  funext f
  by_cases hb : below f.1 n = true
  · obtain ⟨x, _, hx⟩ := (below_iff _ _).1 hb
    rw [hb, hx, head1_at x h]; simp
  · simp [hb]
theorem under_short {fs : List Fi} {n : List UInt8} {f : Fi} (h : f ∈ under fs n) : ∃ g ∈ fs, f.1.length < g.1.length ∧ f.2 = g.2 := by
  obtain ⟨g, hg, rfl⟩ := List.mem_map.1 h
  rw [List.mem_filter] at hg
  obtain ⟨x, hx, e⟩ := (below_iff _ _).1 hg.2
  refine ⟨g, hg.1, ?_, rfl⟩
  rw [tail, e]
  simp; omega

/-- The bytes of entries. -/
def mark (d : Bool) : List UInt8 := [if d then 100 else 102]
def enBytes (e : En) : List UInt8 := pack (packs [e.1, mark e.2.1, e.2.2])
def bytes (es : List En) : List UInt8 := es.flatMap enBytes
theorem bytes_nil : bytes [] = [] := rfl
theorem bytes_cons (e : En) (r : List En) : bytes (e :: r) = enBytes e ++ bytes r := List.flatMap_cons
theorem bytes_append (a b : List En) : bytes (a ++ b) = bytes a ++ bytes b := List.flatMap_append

/-- The entries of the root directory, looked at so many directories deep. -/
def dirN : Nat → List Fi → List En
  | 0, _ => []
  | k + 1, fs => (names fs).map fun n => if (get fs n).2 = true then (n, false, sum (get fs n).1) else (n, true, sum (bytes (dirN k (under fs n))))
theorem names_nil : names [] = [] := rfl
theorem dirN_nil (k : Nat) : dirN k [] = [] := by cases k <;> rfl
theorem dirN_more : ∀ (k j : Nat) (fs : List Fi), (∀ f ∈ fs, f.1.length < k) → k ≤ j → dirN j fs = dirN k fs
  | 0, j, fs, h, _ => by
      have : fs = [] := by
        cases fs with
        | nil => rfl
        | cons f r => exact absurd (h f (by simp)) (by omega)
      rw [this, dirN_nil, dirN_nil]
  | k + 1, 0, _, _, hj => by omega
  | k + 1, j + 1, fs, h, hj => by
      rw [dirN, dirN]
      refine List.map_congr_left fun n _ => ?_
      rw [dirN_more k j (under fs n) (fun f hf => ?_) (by omega)]
      obtain ⟨g, hg, h1, _⟩ := under_short hf
      have := h g hg
      omega
/-- A bound that no path reaches. -/
def deep (fs : List Fi) : Nat := fs.foldr (fun f m => max (f.1.length + 1) m) 0
theorem deep_lt : ∀ {fs : List Fi}, ∀ f ∈ fs, f.1.length < deep fs
  | [], f, h => absurd h (by simp)
  | g :: r, f, h => by
      have e : deep (g :: r) = max (g.1.length + 1) (deep r) := rfl
      rcases List.mem_cons.1 h with rfl | h
      · rw [e]; omega
      · have := deep_lt f h
        rw [e]; omega
/-- The entries of the root directory. -/
def dir (fs : List Fi) : List En := dirN (deep fs) fs
theorem dir_of {fs : List Fi} {k : Nat} (h : ∀ f ∈ fs, f.1.length < k) : dir fs = dirN k fs := by
  rcases Nat.le_total k (deep fs) with hk | hk
  · exact dirN_more k _ fs h hk
  · exact (dirN_more _ k fs deep_lt hk).symm
def entry (fs : List Fi) (n : List UInt8) : En := if (get fs n).2 = true then (n, false, sum (get fs n).1) else (n, true, sum (bytes (dir (under fs n))))
theorem dir_eq (fs : List Fi) : dir fs = (names fs).map (entry fs) := by
  rw [dir_of (k := deep fs + 1) (fun f hf => by have := deep_lt f hf; omega), dirN]
  refine List.map_congr_left fun n _ => ?_
  rw [entry, dir_of (fs := under fs n) (k := deep fs) (fun f hf => ?_)]
  obtain ⟨g, hg, h1, _⟩ := under_short hf
  have := deep_lt g hg
  omega
theorem dir_len (fs : List Fi) : (dir fs).length ≤ fs.length := by
  rw [dir_eq, List.length_map]; exact names_len fs
/-- The directory at a path. -/
def dirAt (fs : List Fi) (p : List UInt8) : List En := if p = [] then dir fs else dir (under fs p)
def digest' (fs : List Fi) : List UInt8 := sum (bytes (dir fs))

/-- May entries be? -/
def rightE (e : En) : Bool := path e.1 == 0 && !(e.1.contains 47) && e.2.2.length == 32
def rightAt (es : List En) (i : Nat) : Bool := match es[i]? with
  | none => true
  | some e => rightE e && (i == 0 || match es[i - 1]? with | none => true | some g => bl g.1 e.1)
def right (es : List En) : Bool := (List.range es.length).all (rightAt es)
theorem right_iff (es : List En) : right es = true ↔ ∀ i, i < es.length → rightAt es i = true := by
  rw [right, List.all_eq_true]
  simp only [List.mem_range]
theorem rightAt_take (es : List En) (i k : Nat) (h : i < k) : rightAt (es.take k) i = rightAt es i := by
  unfold rightAt
  rw [List.getElem?_take, if_pos h, List.getElem?_take, if_pos (by omega)]
theorem right_take_succ (es : List En) (k : Nat) (hk : k < es.length) : right (es.take (k + 1)) = (right (es.take k) && rightAt es k) := by
  rw [Bool.eq_iff_iff, Bool.and_eq_true, right_iff, right_iff]
  simp only [List.length_take]
  constructor
  · intro h
    refine ⟨fun i hi => ?_, ?_⟩
    · have := h i (by omega)
      rw [rightAt_take _ _ _ (by omega)] at this
      rw [rightAt_take _ _ _ (by omega), this]
    · have := h k (by omega)
      rwa [rightAt_take _ _ _ (by omega)] at this
  · rintro ⟨h1, h2⟩ i hi
    rw [rightAt_take _ _ _ (by omega)]
    by_cases hik : i = k
    · rw [hik, h2]
    · have := h1 i (by omega)
      rwa [rightAt_take _ _ _ (by omega)] at this
def encode (es : List En) : List UInt8 × Int := if right es = true then (bytes es, 0) else ([], 11)
end Go.Proofs.YtabcobadglgfkaaGreatDoor.M

/- What bytes are read as entries, which blobs files have, and which files a digest is of, in plain words. Nothing of the program stands here. -/
namespace Go.Proofs.YtabcobadglgfkaaGreatDoor.M
open Go.Lib

/-- All directories' entries, each behind those within it. -/
def allN : Nat → List Fi → List (List En)
  | 0, _ => [[]]
  | k + 1, fs => ((names fs).flatMap fun n => if (get fs n).2 = true then [] else allN k (under fs n)) ++ [dir fs]
theorem allN_more : ∀ (k j : Nat) (fs : List Fi), (∀ f ∈ fs, f.1.length < k) → k ≤ j → allN j fs = allN k fs
  | 0, j, fs, h, _ => by
      have : fs = [] := by
        cases fs with
        | nil => rfl
        | cons f r => exact absurd (h f (by simp)) (by omega)
      rw [this]
      cases j with
      | zero => rfl
      | succ j => simp [allN, names_nil, dir, dirN_nil]
  | k + 1, 0, _, _, hj => by omega
  | k + 1, j + 1, fs, h, hj => by
      rw [allN, allN]
      congr 1
      have e : ∀ n, (if (get fs n).2 = true then [] else allN j (under fs n)) = (if (get fs n).2 = true then [] else allN k (under fs n)) := fun n => by
        rw [allN_more k j (under fs n) (fun f hf => ?_) (by omega)]
        obtain ⟨g, hg, h1, _⟩ := under_short hf
        have := h g hg
        omega
      simp only [e]
def all (fs : List Fi) : List (List En) := allN (deep fs) fs
theorem all_of {fs : List Fi} {k : Nat} (h : ∀ f ∈ fs, f.1.length < k) : all fs = allN k fs := by
  rcases Nat.le_total k (deep fs) with hk | hk
  · exact allN_more k _ fs h hk
  · exact (allN_more _ k fs deep_lt hk).symm
theorem all_eq (fs : List Fi) : all fs = ((names fs).flatMap fun n => if (get fs n).2 = true then [] else all (under fs n)) ++ [dir fs] := by
  rw [all_of (k := deep fs + 1) (fun f hf => by have := deep_lt f hf; omega), allN]
  congr 1
  have e : ∀ n, allN (deep fs) (under fs n) = all (under fs n) := fun n => (all_of (fun f hf => by
    obtain ⟨g, hg, h1, _⟩ := under_short hf
    have := deep_lt g hg
    omega)).symm
  simp only [e]
/-- The blobs of directories, as far as their entries may be. -/
def dirBlobs (ds : List (List En)) : List (List UInt8) := (ds.filter right).map bytes
theorem dirBlobs_append (a b : List (List En)) : dirBlobs (a ++ b) = dirBlobs a ++ dirBlobs b := by simp [dirBlobs]
def blobs (fs : List Fi) : List (List UInt8) := setOf (fs.map (·.2) ++ dirBlobs (all fs))

open Classical in
/-- The entries that bytes are. -/
noncomputable def decode (d : List UInt8) : Option (List En) := if h : ∃ es, right es = true ∧ bytes es = d then some (Classical.choose h) else none
theorem decode_some {d : List UInt8} {es : List En} (h : decode d = some es) : right es = true ∧ bytes es = d := by
  unfold decode at h
  split at h
  · rename_i hx
    have := Classical.choose_spec hx
    injection h with h
    rwa [h] at this
  · cases h
theorem decode_none {d : List UInt8} (h : decode d = none) : ¬ ∃ es, right es = true ∧ bytes es = d := by
  unfold decode at h
  split at h
  · cases h
  · rename_i hx; exact hx

/-- The first blob of a digest. -/
def find (blobs : List (List UInt8)) (d : List UInt8) : Option (List UInt8) := blobs.find? fun b => sum b == d
/-- How many directories there were, and which files. -/
abbrev St := Nat × List Fi
def addFile (blobs : List (List UInt8)) (p d : List UInt8) (s : St) : St × Int := match find blobs d with
  | none => (s, 17)
  | some x => if s.2.length = 32 then (s, 15) else ((s.1, s.2 ++ [(p, x)]), 0)
def goL (blobs : List (List UInt8)) (f : List UInt8 → List UInt8 → St → St × Int) (ahead : List UInt8) : List En → St → St × Int
  | [], s => (s, 0)
  | e :: r, s =>
    let x := if e.2.1 = true then f (ahead ++ e.1 ++ [47]) e.2.2 s else addFile blobs (ahead ++ e.1) e.2.2 s
    if x.2 ≠ 0 then x else goL blobs f ahead r x.1
noncomputable def goD (blobs : List (List UInt8)) : Nat → List UInt8 → List UInt8 → St → St × Int
  | 0, _, _, s => (s, 15)
  | k + 1, ahead, d, s => if s.1 = 1000 then (s, 15) else match find blobs d with
    | none => ((s.1 + 1, s.2), 17)
    | some x => match decode x with
      | none => ((s.1 + 1, s.2), 11)
      | some es => goL blobs (goD blobs k) ahead es (s.1 + 1, s.2)
theorem goL_cons (blobs : List (List UInt8)) (f : List UInt8 → List UInt8 → St → St × Int) (ahead : List UInt8) (e : En) (r : List En) (s : St) :
    goL blobs f ahead (e :: r) s = (let x := if e.2.1 = true then f (ahead ++ e.1 ++ [47]) e.2.2 s else addFile blobs (ahead ++ e.1) e.2.2 s
      if x.2 ≠ 0 then x else goL blobs f ahead r x.1) := rfl
/-- The files behind one another, whatever their order. -/
noncomputable def collect (blobs : List (List UInt8)) (root : List UInt8) : List Fi × Int := ((goD blobs 1001 [] root (0, [])).1.2, (goD blobs 1001 [] root (0, [])).2)

/-- Into files that are in order, behind those of the same path. -/
def insP : List Fi → Fi → List Fi
  | [], f => [f]
  | g :: r, f => if bl f.1 g.1 = true then f :: g :: r else g :: insP r f
def sortP (l : List Fi) : List Fi := l.foldl insP []
noncomputable def files (blobs : List (List UInt8)) (root : List UInt8) : List Fi × Int :=
  if (collect blobs root).2 ≠ 0 then ([], (collect blobs root).2) else if check (sortP (collect blobs root).1) ≠ 0 then ([], check (sortP (collect blobs root).1)) else (sortP (collect blobs root).1, 0)
end Go.Proofs.YtabcobadglgfkaaGreatDoor.M

/- Lists of entries in memory: what a slice of entries reads as, what the call owns. -/
namespace Go.Proofs.YtabcobadglgfkaaGreatDoor
open Go.RowKit

/-- An entry, as a value. -/
abbrev ev (e : M.En) : Value := .agg #[.string ⟨⟨e.1⟩⟩, .bool e.2.1, .string ⟨⟨e.2.2⟩⟩]
/-- Entries' cells, three each. -/
def ecells (es : List M.En) : List Value := es.flatMap fun e => [S e.1, .bool e.2.1, S e.2.2]
theorem ecells_nil : ecells [] = [] := rfl
theorem ecells_append (a b : List M.En) : ecells (a ++ b) = ecells a ++ ecells b := by simp [ecells]
theorem ecells_one (e : M.En) : ecells [e] = [S e.1, .bool e.2.1, S e.2.2] := rfl
theorem ecells_cons (e : M.En) (r : List M.En) : ecells (e :: r) = S e.1 :: .bool e.2.1 :: S e.2.2 :: ecells r := by simp [ecells]
theorem ecells_len : ∀ es : List M.En, (ecells es).length = es.length * 3
  | [] => rfl
  | e :: r => by
      have := ecells_len r
      rw [ecells_cons]
      simp only [List.length_cons]
      omega
theorem ecells_at : ∀ (es : List M.En) (j : Nat) (h : j < es.length), (ecells es)[j * 3]? = some (S es[j].1) ∧ (ecells es)[j * 3 + 1]? = some (.bool es[j].2.1) ∧ (ecells es)[j * 3 + 2]? = some (S es[j].2.2)
  | e :: r, 0, _ => by rw [ecells_cons]; exact ⟨rfl, rfl, rfl⟩
  | e :: r, j + 1, h => by
      rw [ecells_cons]
      have := ecells_at r j (by simpa using h)
      rw [show (j + 1) * 3 = j * 3 + 3 by omega, show j * 3 + 3 + 1 = j * 3 + 1 + 3 by omega, show j * 3 + 3 + 2 = j * 3 + 2 + 3 by omega]
      simpa using this

/-- The slice v reads as the entries es, three cells each. -/
def El (w : World) (v : Value) (es : List M.En) : Prop :=
  ∃ p cap, v = .slice p es.length cap ∧ (p = none → cap = 0) ∧ es.length ≤ cap ∧ (es ≠ [] → ∃ b off, p = some ⟨b, off, none⟩ ∧ b < w.heap.size ∧
    ∀ j (h : j < es.length), w.cell? ⟨b, off + j * 3, none⟩ = some (S es[j].1) ∧ w.cell? ⟨b, off + j * 3 + 1, none⟩ = some (.bool es[j].2.1) ∧ w.cell? ⟨b, off + j * 3 + 2, none⟩ = some (S es[j].2.2))
theorem El.old {w w' : World} {v : Value} {es : List M.En} (h : El w v es) (k : Old w w') : El w' v es := by
  obtain ⟨p, cap, hv, h0, hc, hx⟩ := h
  refine ⟨p, cap, hv, h0, hc, fun hne => ?_⟩
  obtain ⟨b, off, hp, hb, hx⟩ := hx hne
  have hs := k.size
  exact ⟨b, off, hp, by omega, fun j hj => ⟨(k.cell (p := ⟨b, off + j * 3, none⟩) hb).trans (hx j hj).1, (k.cell (p := ⟨b, off + j * 3 + 1, none⟩) hb).trans (hx j hj).2.1, (k.cell (p := ⟨b, off + j * 3 + 2, none⟩) hb).trans (hx j hj).2.2⟩⟩
theorem El.drewN {w : World} {v : Value} {es : List M.En} (h : El w v es) (n : Nat) : El (w.drewN n) v es := h
theorem El.len {w : World} {v : Value} {es : List M.En} (h : El w v es) : ∃ p cap, v = .slice p es.length cap := by
  obtain ⟨p, cap, hv, _⟩ := h
  exact ⟨p, cap, hv⟩
theorem El.at {w : World} {p : Option Addr} {n cap : Nat} {es : List M.En} (h : El w (.slice p n cap) es) (hne : es ≠ []) :
    ∃ b off, p = some ⟨b, off, none⟩ ∧ b < w.heap.size ∧ ∀ j (h : j < es.length), w.cell? ⟨b, off + j * 3, none⟩ = some (S es[j].1) ∧ w.cell? ⟨b, off + j * 3 + 1, none⟩ = some (.bool es[j].2.1) ∧ w.cell? ⟨b, off + j * 3 + 2, none⟩ = some (S es[j].2.2) := by
  obtain ⟨p', cap', hv, _, _, hx⟩ := h
  injection hv with h1 h2 h3
  subst h1
  exact hx hne
theorem El.len' {w : World} {p : Option Addr} {n cap : Nat} {es : List M.En} (h : El w (.slice p n cap) es) : es.length = n := by
  obtain ⟨p', cap', hv, _⟩ := h
  injection hv with h1 h2 h3
  exact h2.symm
theorem El.nil (w : World) : El w (.slice none 0 0) [] := ⟨none, 0, rfl, fun _ => rfl, Nat.le_refl _, fun h => absurd rfl h⟩

/-- The call owns the slice v, which reads as the entries es; its block is none of those below B. -/
abbrev EOwn (B : Nat) (w : World) (v : Value) (es : List M.En) : Prop := w.ownsRow B 33 3 v es.length (ecells es)
theorem EOwn.el {B : Nat} {w : World} {v : Value} {es : List M.En} (h : EOwn B w v es) : El w v es := by
  obtain ⟨_, ⟨hv, hn⟩ | ⟨g, cap, cur, hv, hg, hb, hcap, hmax, hsz, htake⟩⟩ := h
  · rw [List.eq_nil_of_length_eq_zero hn, hv]; exact El.nil w
  · refine ⟨_, cap, hv, (fun h => by cases h), hcap, fun _ => ⟨g, 0, rfl, (Array.getElem?_eq_some_iff.1 hb).1, fun j hj => ?_⟩⟩
    have hx : ∀ i, i < es.length * 3 → w.cell? ⟨g, 0 + i, none⟩ = (ecells es)[i]? := fun i hi => by
      rw [← htake, List.getElem?_take, if_pos hi, Nat.zero_add]
      simp [World.cell?, hb]
    have e := ecells_at es j hj
    exact ⟨(hx _ (by omega)).trans e.1, (hx (j * 3 + 1) (by omega)).trans e.2.1, (hx (j * 3 + 2) (by omega)).trans e.2.2⟩
theorem EOwn.nil (B : Nat) (w : World) : EOwn B w (.slice none 0 0) [] := World.ownsRow_nil w B _ 3
theorem EOwn.old {B : Nat} {w w' : World} {v : Value} {es : List M.En} (h : EOwn B w v es) (k : Old w w') : EOwn B w' v es := row_keep h (Keep.of_old (S := fun _ => False) k) (fun _ _ h => h)
theorem EOwn.mono {B B' : Nat} {w : World} {v : Value} {es : List M.En} (h : EOwn B w v es) (hB : B' ≤ B) : EOwn B' w v es := by
  refine ⟨h.1, ?_⟩
  rcases h.2 with hn | ⟨g, cap, cur, hv, hg, rest⟩
  · exact Or.inl hn
  · exact Or.inr ⟨g, cap, cur, hv, by omega, rest⟩

theorem infoEntry : (Tryz.prog.info? 33).map (fun i => (i.zero, i.size, i.bytes)) = some (some (.agg #[.string ByteArray.empty, .bool false, .string ByteArray.empty]), 3, 40) := by kernel_rfl

/-- What the call owns, stays what it is while other blocks are written. -/
theorem row_grown {B sz : Nat} {w w' : World} {e : TypeId} {v : Value} {n : Nat} {xs : List Value} {row : Option Nat} (h : w.ownsRow B e sz v n xs) (hg : w.grownBy w' row) (hr : ∀ g, v.ownBlock = some g → row ≠ some g) : w'.ownsRow B e sz v n xs := by
  refine ⟨h.1, ?_⟩
  rcases h.2 with hn | ⟨g, cap, cur, hv, hB, hb, rest⟩
  · exact Or.inl hn
  · exact Or.inr ⟨g, cap, cur, hv, hB, (hg.block g (Array.getElem?_eq_some_iff.1 hb).1 (fun e => hr g (by rw [hv]; rfl) e.symm)).trans hb, rest⟩
end Go.Proofs.YtabcobadglgfkaaGreatDoor

/- The program's files by the first parts of their paths. -/
namespace Go.Proofs.YtabcobadglgfkaaGreatDoor
open Go.RowKit

theorem cut_head (s : List UInt8) : (Lib.cut s [47]).1 = M.head1 s := by
  unfold Lib.cut
  rcases M.index47 s with ⟨h1, h2⟩ | ⟨i, h1, h2, h3, h4⟩
  · rw [h1, if_neg (by decide), M.head1_all h2]
  · rw [h1, if_pos (by omega)]
    conv => rhs; rw [h4, M.head1_at _ h3]
    rfl

/-- A map's element, read as itself. -/
abbrev heldE (v : Value) : Option (DataW Value × List MemPlace) := some (.held v, [])
abbrev void : DataW Value := .held (.slice none 0 0)
theorem row_lt {B sz : Nat} {w : World} {e : TypeId} {v : Value} {n : Nat} {xs : List Value} (h : w.ownsRow B e sz v n xs) : ∀ g, v.ownBlock = some g → g < w.heap.size := by
  intro g hg
  obtain ⟨_, ⟨hv, _⟩ | ⟨g', cap, cur, hv, _, hb, _⟩⟩ := h
  · rw [hv] at hg; cases hg
  · rw [hv] at hg
    have : g' = g := by simpa [Value.ownBlock] using hg
    subst this
    exact (Array.getElem?_eq_some_iff.1 hb).1

/-- Block b is a map that has the files fs by the first parts of their paths. -/
structure Grp (w : World) (b n : Nat) (D : DataW Value) (fs : List M.Fi) : Prop where
  own : w.ownsMap Tryz.prog 9 heldE b n D
  at_ : ∀ s, ∃ v, D.atKey (.string s) void = .held v ∧ Own (b + 1) w v (M.grp fs s)
  apart : ∀ s t, s ≠ t → ∀ v u g, D.atKey (.string s) void = .held v → D.atKey (.string t) void = .held u → v.ownBlock = some g → u.ownBlock = some g → False
  has : ∀ s, Maps.has D (.string s) = true ↔ ∃ f ∈ fs, M.head1 f.1 = s
theorem Grp.made (w : World) : Grp (w.alloc (.map #[] 0)) w.heap.size 0 (.map []) [] where
  own := World.ownsMap_made w _ _ _
  at_ := fun _ => ⟨.slice none 0 0, rfl, Own.nil _ _⟩
  apart := fun s t _ v u g hv _ hg _ => by
    have e : (DataW.map ([] : List (Lit × DataW Value))).atKey (.string s) void = void := rfl
    rw [e] at hv
    cases hv
    cases hg
  has := fun s => by
    have e : Maps.has (DataW.map ([] : List (Lit × DataW Value))) (.string s) = false := rfl
    rw [e]; simp
theorem Grp.grown {w w' : World} {b n : Nat} {D : DataW Value} {fs : List M.Fi} (h : Grp w b n D fs) (hg : w.grownBy w' none) : Grp w' b n D fs where
  own := h.own.kept hg (by simp)
  at_ := fun s => by
    obtain ⟨v, hv, ho⟩ := h.at_ s
    exact ⟨v, hv, row_grown ho hg (by simp)⟩
  apart := h.apart
  has := h.has
theorem grown_old {w w' : World} (h : Old w w') : w.grownBy w' none := ⟨h.os, h.tape, h.output, h.size, fun k hk _ => h.block k hk⟩
theorem Grp.old {w w' : World} {b n : Nat} {D : DataW Value} {fs : List M.Fi} (h : Grp w b n D fs) (k : Old w w') : Grp w' b n D fs := h.grown (grown_old k)
theorem grp_append (fs : List M.Fi) (f : M.Fi) (s : List UInt8) : M.grp (fs ++ [f]) s = M.grp fs s ++ if M.head1 f.1 = s then [f] else [] := by
  unfold M.grp
  rw [List.filter_append]
  congr 1
  by_cases h : M.head1 f.1 = s <;> simp [h]
/-- One file more: its group has grown, then the map has been told. -/
theorem Grp.step {w w1 w2 : World} {b n : Nat} {D : DataW Value} {fs : List M.Fi} {f : M.Fi} {v v' : Value} (h : Grp w b n D fs) (hv : D.atKey (.string (M.head1 f.1)) void = .held v)
    (hrow : Own (b + 1) w1 v' (M.grp fs (M.head1 f.1) ++ [f])) (hg : w.grownBy w1 v.ownBlock) (hat : v'.ownBlock = v.ownBlock ∨ v'.ownBlock = some w.heap.size)
    (hown : w2.ownsMap Tryz.prog 9 heldE b (n + 1) (D.put (.string (M.head1 f.1)) (.held v'))) (hg2 : w1.grownBy w2 (some b)) : Grp w2 b (n + 1) (D.put (.string (M.head1 f.1)) (.held v')) (fs ++ [f]) := by
  have hrow2 : Own (b + 1) w2 v' (M.grp fs (M.head1 f.1) ++ [f]) := row_grown hrow hg2 (fun g hg e => by have := row_from hrow g hg; injection e with e; omega)
  have same : (D.put (.string (M.head1 f.1)) (.held v')).atKey (.string (M.head1 f.1)) void = .held v' := Maps.atKey_put_same h.own.isMap (show WideAt.IsKeyLit (.string _) from trivial) _ _
  have other : ∀ s, s ≠ M.head1 f.1 → (D.put (.string (M.head1 f.1)) (.held v')).atKey (.string s) void = D.atKey (.string s) void := fun s hs => Maps.atKey_put_other (by intro e; injection e with e; exact hs e) _ _
  have far : ∀ s, s ≠ M.head1 f.1 → ∀ u g, D.atKey (.string s) void = .held u → u.ownBlock = some g → v'.ownBlock = some g → False := fun s hs u g hu hug hvg => by
    rcases hat with e | e
    · exact h.apart _ _ hs u v g hu hv hug (e ▸ hvg)
    · rw [e] at hvg
      injection hvg with hvg
      obtain ⟨u', hu', ho⟩ := h.at_ s
      rw [hu] at hu'
      injection hu' with hu'
      subst hu'
      have := row_lt ho g hug
      omega
  refine ⟨hown, fun s => ?_, fun s t hst x y g hx hy hxg hyg => ?_, fun s => ?_⟩
  · by_cases hs : s = M.head1 f.1
    · subst hs
      exact ⟨v', same, by rw [grp_append, if_pos rfl]; exact hrow2⟩
    · obtain ⟨u, hu, ho⟩ := h.at_ s
      refine ⟨u, (other s hs).trans hu, ?_⟩
      rw [grp_append, if_neg (fun e => hs e.symm), List.append_nil]
      have h1 : Own (b + 1) w1 u (M.grp fs s) := row_grown ho hg (fun g hug e => h.apart _ _ hs u v g hu hv hug e)
      exact row_grown h1 hg2 (fun g hug e => by have := row_from h1 g hug; injection e with e; omega)
  · by_cases hs : s = M.head1 f.1
    · subst hs
      rw [same] at hx
      injection hx with hx
      subst hx
      rw [other t (fun e => hst e.symm)] at hy
      exact far t (fun e => hst e.symm) y g hy hyg hxg
    · rw [other s hs] at hx
      by_cases ht : t = M.head1 f.1
      · subst ht
        rw [same] at hy
        injection hy with hy
        subst hy
        exact far s hs x g hx hxg hyg
      · rw [other t ht] at hy
        exact h.apart s t hst x y g hx hy hxg hyg
  · by_cases hs : s = M.head1 f.1
    · subst hs
      rw [Maps.has_put_same h.own.isMap (show WideAt.IsKeyLit (.string _) from trivial)]
      simp
    · rw [Maps.has_put_other (by intro e; injection e with e; exact hs e), h.has s]
      constructor
      · rintro ⟨x, hx, e⟩; exact ⟨x, by simp [hx], e⟩
      · rintro ⟨x, hx, e⟩
        rcases List.mem_append.1 hx with hx | hx
        · exact ⟨x, hx, e⟩
        · rw [List.mem_singleton] at hx; subst hx; exact absurd e.symm hs

/-- Files that are not too many, with paths that strings.Cut takes. -/
def Tame (fs : List M.Fi) : Prop := fs.length ≤ 1000000 ∧ ∀ f ∈ fs, f.1.length ≤ 1000000 ∧ f.2.length ≤ 1099511627776
theorem Tame.alls {fs : List M.Fi} (h : Tame fs) : Alls fs := ⟨by have := h.1; omega, fun f hf => ⟨by have := (h.2 f hf).1; omega, (h.2 f hf).2⟩⟩
theorem mapFiles : Tryz.prog.underlying 95 = some (.map 9 22) := Tryz.underlying95
theorem keyString : Maps.Keyed Tryz.prog 9 := Maps.string_keyed Tryz.underlying9

set_option maxHeartbeats 2000000 in
set_option maxRecDepth 100000 in
theorem byName_any (v : Value) (fs : List M.Fi) (w : World) (hm : Mx w) (h : Fl w v fs) (hf : Tame fs) :
    Calls Tryz.prog 71 #[v] w fun e w' => ∃ n D, n ≤ fs.length ∧ e = .returned (.map (some w.heap.size)) ∧ Grp w' w.heap.size n D fs ∧ Old w w' := by
  obtain ⟨i0, hi, hz0, hz1, hz2⟩ := info_parts infoFile
  obtain ⟨hlen, hok⟩ := hf
  obtain ⟨pp, cap, rfl⟩ := h.len
  have H := Lib.hid h
  have HM := Lib.hid hm
  have HOK := Lib.hid hok
  have hmm := @run_makeMap Tryz.prog
  have HG0 := Lib.hid (Grp.made w)
  clear h hok hm
  go_enter Tryz.func71, Tryz.ntmps71
  go_wp2
  go_loopw [12] (fun i wr => ∃ k : Nat, k ≤ fs.length ∧ i = .int .i64 k ∧ (∃ D, Grp wr w.heap.size k D (fs.take k)) ∧ Old w wr) (fun i _ => fs.length - (intOf i).toNat)
  case atStart => exact ⟨0, Nat.zero_le _, rfl, ⟨_, HG0.out⟩, Old.alloc _ _⟩
  case round =>
    obtain ⟨k, hk, rfl, ⟨D, hG⟩, ho⟩ := hrel
    have HO := Lib.hid ho
    have HG := Lib.hid hG
    clear ho hG
    by_cases hlt : k < fs.length
    · obtain ⟨b, off, rfl, hb, hc⟩ := (H.out.old HO.out).at (by intro h; rw [h] at hlt; exact absurd hlt (Nat.not_lt_zero _))
      obtain ⟨hc0, hc1⟩ := hc k hlt
      obtain ⟨hs0, hs1⟩ := HOK.out _ (List.getElem_mem hlt)
      have HTK := Lib.hid (List.take_succ_eq_append_getElem hlt)
      have hgl : (M.grp (fs.take k) (M.head1 fs[k].1)).length ≤ k := Nat.le_trans (List.length_filter_le _ _) (by simp; omega)
      clear hc
      generalize fs[k] = f at *
      obtain ⟨w2, ew2, hb2, ho2⟩ : ∃ w2, wr.alloc (.cells #[S f.1, S f.2] 54) = w2 ∧ Blk w2 wr.heap.size #[S f.1, S f.2] 54 ∧ Old wr w2 := ⟨_, rfl, Blk.new wr _ _, Old.alloc wr _⟩
      have d0 := hb2.cellN 0 rfl
      have d1 := hb2.cellN 1 rfl
      have HO2 := Lib.hid (HO.out.trans ho2)
      have HG2 := Lib.hid (HG.out.old ho2)
      obtain ⟨m, hmx⟩ := HM.out.old HO2.out
      have HC := Lib.hid (Tryz.strings_Cut ⟨⟨f.1⟩⟩ ⟨#[47]⟩ m w2 (by rw [size_mk]; omega) hmx)
      have hch : (Lib.cut f.1 [47]).1 = M.head1 f.1 := cut_head f.1
      rw [show (⟨⟨f.1⟩⟩ : ByteArray).data.toList = f.1 from rfl, show (⟨#[47]⟩ : ByteArray).data.toList = [47] from rfl, hch] at HC
      have hhl : (M.head1 f.1).length ≤ 1000000 := Nat.le_trans (List.takeWhile_sublist _).length_le hs0
      clear hch hmx hb2 hs0
      obtain ⟨u, hu, hown⟩ := HG2.out.at_ (M.head1 f.1)
      have HU := Lib.hid hu
      have HOWN := Lib.hid hown
      have hzero := Tryz.zeroValue22
      have hkey : keyOf Tryz.prog 9 (.string ⟨⟨M.head1 f.1⟩⟩) = some (.string (M.head1 f.1)) := WideMaps.keyOf_string_mk Tryz.underlying9 (by show (M.head1 f.1).length ≤ _; unfold maxLen; omega)
      clear hu hown
      obtain ⟨q, cq, rfl⟩ := HOWN.out.fl.len
      generalize hgr : M.grp (fs.take k) (M.head1 f.1) = gr at *
      go_wp2_with fail
      refine HC.out.mono ?_
      rintro e w3 ⟨rfl, n3, rfl⟩
      obtain ⟨x, ps, hrun, hR⟩ := (HG2.out.old (Old.drewN w2 n3)).own.lookup keyString mapFiles (hzero _) (z := .slice none 0 0) (zd := void) (zp := []) rfl hkey
      obtain rfl : x = .slice q gr.length cq := by
        rw [HU.out] at hR
        injection hR with hR
        injection hR with hR
        injection hR
      have e0 : (w2.drewN n3).cell? ⟨wr.heap.size, 0, none⟩ = some (S f.1) := d0
      have e1 : (w2.drewN n3).cell? ⟨wr.heap.size, 1, none⟩ = some (S f.2) := d1
      have hs2 := HO2.out.size
      have hlb := HG2.out.own.lt
      have HGA := Lib.hid (show Grp ((w2.drewN n3).alloc (.cells #[S f.1, S f.2] 54)) w.heap.size k D (fs.take k) from (HG2.out.old (Old.drewN w2 n3)).old (Old.alloc _ _))
      have hownA : Own (w.heap.size + 1) ((w2.drewN n3).alloc (.cells #[S f.1, S f.2] 54)) (.slice q gr.length cq) gr := (HOWN.out.old (Old.drewN w2 n3)).old (Old.alloc _ _)
      have HNW := Lib.hid (World.news_of_block (heap_alloc_new (w2.drewN n3) (.cells #[S f.1, S f.2] 54)))
      have HOA := Lib.hid ((HO2.out.trans (Old.drewN w2 n3)).trans (Old.alloc (w2.drewN n3) (.cells #[S f.1, S f.2] 54)))
      clear hR d0 d1
      go_wp2_with (at_builtin; refine wpList_append_own_at _ rfl _ _ 22 rfl (w.heap.size + 1) 54 i0 _ 2 32 Tryz.underlying22 hi hz0 hz1 hz2 rfl (by decide) _ _ _ rfl hownA ⟨w2.heap.size, 0, none⟩ 1 1 [S f.1, S f.2] rfl rfl HNW.out (by intro u hu; simp only [List.mem_cons, List.not_mem_nil, or_false] at hu; rcases hu with rfl | rfl <;> rfl) (by unfold maxLen; omega) (by omega) ?c5 ?_)
      case c5 => have : ((w2.drewN n3).alloc (.cells #[S f.1, S f.2] 54)).heap.size = w2.heap.size + 1 := by simp
                 omega
      intro v' w4 hown4 hgrow4 _ hat4
      have HG4 := Lib.hid (HGA.out.own.kept hgrow4 (by intro e; have := row_from hownA _ e.symm; omega))
      have HROW := Lib.hid (show Own (w.heap.size + 1) w4 v' (gr ++ [f]) from by
        show w4.ownsRow (w.heap.size + 1) 54 2 v' (gr ++ [f]).length (cells (gr ++ [f]))
        rw [cells_append, cells_one, List.length_append]
        exact hown4)
      obtain ⟨q4, n4, c4, rfl⟩ : ∃ q n c, v' = .slice q n c := by
        obtain ⟨p, c, e⟩ := HROW.out.fl.len
        exact ⟨_, _, _, e⟩
      have HGR4 := Lib.hid hgrow4
      clear hown4 hgrow4 hownA hrun
      go_wp2_with (at_mapUpdate; refine wpList_mapUpdate_own _ rfl _ _ _ 95 rfl 9 22 keyString mapFiles heldE w.heap.size k D rfl HG4.out (by unfold maxLen; omega) _ _ _ rfl rfl hkey _ [] rfl ?_)
      intro w5 hown5 hgrow5
      have HG5 := Lib.hid (Grp.step (f := f) HGA.out HU.out (by rw [hgr]; exact HROW.out) HGR4.out (by rw [World.size_alloc]; exact hat4) hown5 hgrow5)
      have HO5 := Lib.hid (show Old w w5 from Keep.old ((Keep.of_old (S := fun _ => False) HOA.out).grown HGR4.out (fun g hg => Or.inl (by have := row_from HOWN.out g hg; omega)) |>.grown hgrow5 (fun g hg => Or.inl (by injection hg with hg; omega))) (fun _ _ h => h))
      clear hown5 hgrow5
      go_wp2
      go_roundw
      case rel => exact ⟨k + 1, by omega, by go_num, ⟨_, by rw [HTK.out]; exact HG5.out⟩, HO5.out⟩
      case measure => simp [intOf]; omega
    · obtain rfl : k = fs.length := by omega
      rw [List.take_of_length_le (Nat.le_refl _)] at HG
      go_wp2
      go_ret
      exact ⟨_, _, Nat.le_refl _, rfl, HG.out, HO.out⟩
end Go.Proofs.YtabcobadglgfkaaGreatDoor

/- The program's names, the bytes of entries, their digest. -/
namespace Go.Proofs.YtabcobadglgfkaaGreatDoor
open Go.RowKit

/-- Is a text a path with a single part? -/
def isN (s : List UInt8) : Bool := M.path s == 0 && !decide (47 ∈ s)
theorem contains47 (s : List UInt8) : decide (0 ≤ Lib.indexByte s 47) = decide (47 ∈ s) := by
  have h0 := Lib.indexByte_ge s 47
  rw [Bool.eq_iff_iff, decide_eq_true_eq, decide_eq_true_eq]
  constructor
  · intro h
    obtain ⟨i, hi⟩ : ∃ i : Nat, Lib.indexByte s 47 = i := ⟨(Lib.indexByte s 47).toNat, by omega⟩
    exact List.mem_of_getElem? (Lib.indexByte_some hi).1
  · intro h
    obtain ⟨k, hk, e⟩ := List.getElem_of_mem h
    by_cases hm : Lib.indexByte s 47 = -1
    · exact absurd (by rw [List.getElem?_eq_getElem hk, e]) (Lib.indexByte_none hm k)
    · omega

set_option maxHeartbeats 1000000 in
theorem isName_any (s : List UInt8) (hl : s.length ≤ maxLen) (w : World) (hm : Mx w) :
    Calls Tryz.prog 41 #[S s] w fun e w' => e = .returned (.bool (isN s)) ∧ Old w w' := by
  have HP := Lib.hid (path_any s hl w hm)
  have HC := Lib.hid (fun w1 : World => Tryz.strings_Contains_one ⟨⟨s⟩⟩ 47 w1)
  have HX := contains47 s
  rw [HX] at HC
  unfold isN
  by_cases h0 : M.path s = 0
  · rw [h0] at HP ⊢
    go_enter Tryz.func41, Tryz.ntmps41
    go_wp2_with (first
      | ((with_reducible refine HP.out.mono ?_); rintro e w1 ⟨rfl, ho1⟩)
      | ((with_reducible refine (HC.out _).mono ?_); rintro e w2 ⟨rfl, rfl⟩))
    go_ret
    exact ⟨ret_bool (by simp), ho1⟩
  · have h1 : (M.path s == 0) = false := by simpa using h0
    rw [h1]
    go_enter Tryz.func41, Tryz.ntmps41
    go_wp2_with ((with_reducible refine HP.out.mono ?_); rintro e w1 ⟨rfl, ho1⟩)
    go_ret
    exact ⟨rfl, ho1⟩

theorem pack_ge (l : List UInt8) : l.length ≤ (M.pack l).length := by simp [M.pack]; omega
theorem packs_ge {l : List (List UInt8)} {s : List UInt8} (h : s ∈ l) : s.length ≤ (M.packs l).length := by
  obtain ⟨a, b, rfl⟩ := List.append_of_mem h
  have := pack_ge s
  simp only [M.packs, List.map_append, List.map_cons, List.flatten_append, List.flatten_cons, List.length_append]
  omega
theorem bytes_take (es : List M.En) (k : Nat) : (M.bytes (es.take k)).length ≤ (M.bytes es).length := by
  conv => rhs; rw [← List.take_append_drop k es, M.bytes_append, List.length_append]
  omega
theorem bytes_succ (es : List M.En) (k : Nat) (h : k < es.length) : M.bytes (es.take (k + 1)) = M.bytes (es.take k) ++ M.enBytes es[k] := by
  rw [List.take_succ_eq_append_getElem h, M.bytes_append]
  simp [M.bytes]

set_option maxHeartbeats 2000000 in
set_option maxRecDepth 100000 in
theorem write_any (v : Value) (es : List M.En) (w : World) (ht : Tab w) (h : El w v es) (hl : es.length ≤ maxLen) (hsum : (M.bytes es).length ≤ 140737488355328) :
    Calls Tryz.prog 42 #[v] w fun e w' => e = .returned (.string ⟨⟨M.bytes es⟩⟩) ∧ Old w w' := by
  unfold maxLen at hl
  obtain ⟨pp, cap, rfl⟩ := h.len
  have H := Lib.hid h
  have hnew := Bld.fresh w w.heap.size (Nat.le_refl _)
  clear h
  go_enter Tryz.func42, Tryz.ntmps42
  go_wp2
  go_loopw [9] (fun i wr => ∃ k : Nat, k ≤ es.length ∧ i = .int .i64 k ∧ Bld wr w.heap.size w.heap.size (M.bytes (es.take k)) ∧ Old w wr) (fun i _ => es.length - (intOf i).toNat)
  case atStart => exact ⟨0, Nat.zero_le _, rfl, hnew, Old.alloc _ _⟩
  case round =>
    obtain ⟨k, hk, rfl, hb, ho⟩ := hrel
    clear hnew
    have HB := Lib.hid hb
    have HO := Lib.hid ho
    clear hb ho
    by_cases hlt : k < es.length
    · obtain ⟨b, off, rfl, hbw, hc⟩ := (H.out.old HO.out).at (by intro h; rw [h] at hlt; exact absurd hlt (Nat.not_lt_zero _))
      obtain ⟨hc0, hc1, hc2⟩ := hc k hlt
      clear hc
      have hp1 := bytes_succ es k hlt
      have hle := bytes_take es (k + 1)
      rw [hp1, List.length_append] at hle
      have HP := Lib.hid hp1
      clear hp1
      have hsz := HO.out.size
      have hpe : (M.packs [es[k].1, M.mark es[k].2.1, es[k].2.2]).length ≤ (M.enBytes es[k]).length := pack_ge _
      have heach : ∀ s ∈ [es[k].1, M.mark es[k].2.1, es[k].2.2], s.length ≤ (M.packs [es[k].1, M.mark es[k].2.1, es[k].2.2]).length := fun s hs => packs_ge hs
      have hen : M.enBytes es[k] = M.pack (M.packs [es[k].1, M.mark es[k].2.1, es[k].2.2]) := rfl
      rw [hen] at HP hpe hle
      clear hen
      generalize es[k] = x at *
      obtain ⟨n, d, g⟩ := x
      simp only at *
      have hHL : ∀ (m : List UInt8), M.mark d = m → ∀ (B : Nat) (W : World), W.heap.size = B → Old wr W → Calls Tryz.prog 81 #[.slice (some ⟨B, 0, none⟩) 3 3] (W.alloc (.cells #[S n, S m, S g] 9)) fun e w' => e = .returned (.string ⟨⟨M.pack (M.packs [n, M.mark d, g])⟩⟩) ∧ Old (W.alloc (.cells #[S n, S m, S g] 9)) w' := by
        intro m hm B W hB hW
        subst hm; subst hB
        refine plist_any _ [n, M.mark d, g] (W.heap.size + 1) _ ((ht.old (HO.out.trans hW)).old (Old.alloc _ _)) ⟨_, 3, rfl, (fun h => by cases h), fun _ => ⟨W.heap.size, 0, rfl, by omega, fun j hj => ?_⟩⟩ (by simp) (by simp [maxLen]) (by omega) (fun s hs => by have := heach s hs; omega)
        rw [Nat.zero_add]
        exact ((Blk.new W #[S n, S (M.mark d), S g] 9).cell j).trans (by simp [vstr])
      have HL := Lib.hid hHL
      have HW := Lib.hid (fun w1 (h1 : Old wr w1) => writeString_any w.heap.size w.heap.size (M.bytes (es.take k)) ⟨⟨M.pack (M.packs [n, M.mark d, g])⟩⟩ w1 (HB.out.old h1) (Nat.le_trans hle hsum) (Nat.le_trans hsz h1.size))
      clear hHL heach
      have hn0 := (Blk.new wr #[S n, .bool d, S g] 33).cellN 0 rfl
      have hn1 := (Blk.new wr #[S n, .bool d, S g] 33).cellN 1 rfl
      have hn2 := (Blk.new wr #[S n, .bool d, S g] 33).cellN 2 rfl
      have HOA := Lib.hid (Old.alloc wr (.cells #[S n, .bool d, S g] 33))
      cases d with
      | true =>
        have HL1 := Lib.hid (HL.out [100] rfl (wr.heap.size + 1) _ (by simp) HOA.out)
        clear HL
        go_wp2_with (first
          | ((with_reducible refine HL1.out.mono ?_); rintro e w1 ⟨rfl, ho1⟩)
          | ((with_reducible refine (HW.out _ ((HOA.out.trans (Old.alloc _ _)).trans ho1)).mono ?_); rintro e w2 ⟨rfl, hb2, ho2, _⟩))
        go_roundw
        case rel => exact ⟨k + 1, by omega, by go_num, by rw [HP.out]; exact hb2, Below.trans (HO.out.trans ((HOA.out.trans (Old.alloc _ _)).trans ho1)) ho2⟩
        case measure => simp [intOf]; omega
      | false =>
        have HL1 := Lib.hid (HL.out [102] rfl (wr.heap.size + 1) _ (by simp) HOA.out)
        clear HL
        go_wp2_with (first
          | ((with_reducible refine HL1.out.mono ?_); rintro e w1 ⟨rfl, ho1⟩)
          | ((with_reducible refine (HW.out _ ((HOA.out.trans (Old.alloc _ _)).trans ho1)).mono ?_); rintro e w2 ⟨rfl, hb2, ho2, _⟩))
        go_roundw
        case rel => exact ⟨k + 1, by omega, by go_num, by rw [HP.out]; exact hb2, Below.trans (HO.out.trans ((HOA.out.trans (Old.alloc _ _)).trans ho1)) ho2⟩
        case measure => simp [intOf]; omega
    · obtain rfl : k = es.length := by omega
      rw [List.take_length] at HB
      have HS := Lib.hid (bstring_any w.heap.size w.heap.size _ _ HB.out HO.out.size)
      go_wp2_with ((with_reducible refine HS.out.mono ?_); rintro e w1 ⟨rfl, _, ho1, _⟩)
      go_ret
      exact ⟨rfl, Below.trans HO.out ho1⟩

/-- The digest of entries. -/
theorem tdigest_any (v : Value) (es : List M.En) (w : World) (ht : Tab w) (hb : Tabs w) (h : El w v es) (hl : es.length ≤ maxLen) (hsum : (M.bytes es).length ≤ 1099511627776) :
    Calls Tryz.prog 40 #[v] w fun e w' => e = .returned (.string ⟨⟨M.sum (M.bytes es)⟩⟩) ∧ Old w w' := by
  have HW := Lib.hid (write_any v es w ht h hl (by omega))
  have HS := Lib.hid (fun (w1 : World) (h1 : Old w w1) => sum_any ⟨⟨M.bytes es⟩⟩ (by show (M.bytes es).length ≤ _; exact hsum) w1 (hb.old h1))
  go_enter Tryz.func40, Tryz.ntmps40
  go_wp2_with (first
    | ((with_reducible refine HW.out.mono ?_); rintro e w1 ⟨rfl, ho1⟩)
    | ((with_reducible refine (HS.out _ ho1).mono ?_); rintro e w2 ⟨rfl, ho2⟩))
  go_ret
  exact ⟨rfl, ho1.trans ho2⟩
end Go.Proofs.YtabcobadglgfkaaGreatDoor

/- The keys of a map in order. -/
namespace Go.Proofs.YtabcobadglgfkaaGreatDoor
open Go.RowKit Go.Sort Go.Shelf

theorem bl_lt (a b : List UInt8) : M.bl a b = decide (a < b) := bytesLess_eq a b
theorem bl_le {a b : List UInt8} (h : a ≤ b) (hne : a ≠ b) : M.bl a b = true := by
  cases hb : M.bl a b with
  | true => rfl
  | false =>
    have h1 := M.bl_total hb hne
    rw [bl_lt, decide_eq_true_eq] at h1
    exact absurd h1 (List.not_lt.2 h)
/-- Distinct texts, sorted, rise. -/
theorem rising_sorted {l : List (List UInt8)} (h : l.Nodup) : M.rising (l.mergeSort fun x y => decide (x ≤ y)) := by
  have tr : ∀ a b c : List UInt8, decide (a ≤ b) = true → decide (b ≤ c) = true → decide (a ≤ c) = true := fun a b c h1 h2 => by simp only [decide_eq_true_eq] at *; exact List.le_trans h1 h2
  have tot : ∀ a b : List UInt8, (decide (a ≤ b) || decide (b ≤ a)) = true := fun a b => by simp only [Bool.or_eq_true, decide_eq_true_eq]; exact List.le_total a b
  have hp := List.pairwise_mergeSort tr tot l
  have hn : (l.mergeSort fun x y => decide (x ≤ y)).Nodup := (List.mergeSort_perm l _).nodup_iff.2 h
  exact (hp.and hn).imp fun {a b} h => bl_le (by simpa using h.1) h.2

theorem sorted_names {w : World} {b n : Nat} {D : DataW Value} {fs : List M.Fi} (h : Grp w b n D fs) {ss : List (List UInt8)} (hp : ss.Perm (strKeys D)) : (ss.mergeSort fun x y => decide (x ≤ y)) = M.names fs := by
  have hu : Tryz.prog.underlying 9 = some .string := Tryz.underlying9
  obtain ⟨es, hD, hpw, _⟩ := h.own.entries keyString
  obtain ⟨es', hD', hko⟩ := h.own.keysOf
  obtain rfl : es = es' := by rw [hD] at hD'; simpa using hD'
  have hstr : ∀ p ∈ es, ∃ x, p.1 = .string x := fun p hp => by
    obtain ⟨v, hv⟩ := hko p hp
    obtain ⟨x, _, hx, _⟩ := Maps.keyOf_str hu hv
    exact ⟨x, hx⟩
  have hnd : (strKeys D).Nodup := by
    rw [hD]
    show (es.map fun p => strOf p.1).Nodup
    refine List.pairwise_map.2 (hpw.imp_of_mem fun {p q} hp' hq' hne e => hne ?_)
    obtain ⟨a, ha⟩ := hstr p hp'
    obtain ⟨c, hc⟩ := hstr q hq'
    rw [ha, hc] at e ⊢
    exact congrArg _ e
  have hmem : ∀ x, x ∈ strKeys D ↔ ∃ f ∈ fs, M.head1 f.1 = x := fun x => by
    rw [← h.has x, hD, Maps.has_eq, List.any_eq_true]
    show x ∈ es.map (fun p => strOf p.1) ↔ _
    rw [List.mem_map]
    constructor
    · rintro ⟨p, hp', rfl⟩
      obtain ⟨a, ha⟩ := hstr p hp'
      exact ⟨p, hp', by rw [ha]; simp [Lit.sameKey, strOf]⟩
    · rintro ⟨p, hp', hs⟩
      obtain ⟨a, ha⟩ := hstr p hp'
      rw [ha] at hs
      exact ⟨p, hp', by rw [ha]; simpa [Lit.sameKey, strOf] using hs⟩
  refine M.rising_ext (rising_sorted (hp.nodup_iff.2 hnd)) (M.rising_setOf _) fun x => ?_
  rw [(List.mergeSort_perm ss _).mem_iff, hp.mem_iff, hmem, M.mem_names]

/-- The iterator over a map's keys. -/
theorem keys_any (mb : Option Nat) (w : World) :
    Calls Tryz.prog 73 #[.map mb] w fun e w' => e = .returned (.func (.func 104) #[] #[.pointer (some ⟨w.heap.size, 0, none⟩)]) ∧ w' = w.alloc (.cells #[.map mb] 95) :=
  (callsIn_wide (n := 5)).1 (AnyZ.keys_in Tryz.keysA Fence.wide 5 trivial rfl mb w)

theorem sorts_any (m : Nat) : AnyZ.SortsIn Tryz.prog Tryz.sortedA_ren Fence.wide m :=
  ⟨fun blk off cap ss W hH hblk hsz => callsIn_wide.2 (Tryz.slices_Sort_string blk off cap ss W hH hblk hsz),
   fun p cap W => callsIn_wide.2 (Tryz.slices_Sort_string_none p cap W)⟩

/-- A map's keys, each once, in order. -/
theorem sorted_any (Bm b n : Nat) (D : DataW Value) (fs : List M.Fi) (w : World) (h : Grp w b n D fs) (hc : w.cell? ⟨Bm, 0, none⟩ = some (.map (some b))) (hB : Bm < w.heap.size) (hn : n ≤ 1099511627776) :
    Calls Tryz.prog 72 #[.func (.func 104) #[] #[.pointer (some ⟨Bm, 0, none⟩)]] w fun e w' =>
      ∃ v, e = .returned v ∧ Sl w'.heap.size w' v ((M.names fs).map vstr) ∧ (∀ g, v.ownBlock = some g → w.heap.size ≤ g ∧ g < w'.heap.size) ∧ Old w w' := by
  have hsz := h.own.size_le
  have hseq : SeqGives Fence.wide 2 Tryz.prog 104 #[.pointer (some ⟨Bm, 0, none⟩)] encStr (fun ss => ss.Perm (strKeys D)) (Maps.size D) w :=
    AnyZ.keys_gives (ρ := Tryz.keysA_ren) { Tryz.keysA with } Fence.wide _ trivial rfl (by omega) Bm b n D _ hB hc h.own
  have cS := AnyZ.sorted_in Tryz.sortedA Fence.wide 5 trivial trivial trivial trivial rfl (by omega) (sorts_any _) (enters_of Tryz.func52 (by kernel_rfl) rfl) 104 #[.pointer (some ⟨Bm, 0, none⟩)] trivial (enters_of Tryz.func104 (by kernel_rfl) rfl) _ _ (by unfold maxLen; omega) (by omega) _ hseq
  refine ((callsIn_wide (n := 5)).1 cS).mono ?_
  rintro e w' ⟨v, ss, rfl, hS, hrow, _, hb⟩
  rw [sorted_names h hS] at hrow
  have hl : ss.length = (M.names fs).length := by rw [← sorted_names h hS, List.length_mergeSort]
  have hrow2 : w'.ownsRow w.heap.size 9 1 v ((M.names fs).map vstr).length ((M.names fs).map vstr) := by
    rw [List.length_map, ← hl]
    exact hrow
  exact ⟨v, rfl, Sl.of_row hrow2, fun g hg => ⟨row_from hrow2 g hg, row_lt hrow2 g hg⟩, hb⟩
end Go.Proofs.YtabcobadglgfkaaGreatDoor

/- What stays, while a function that was handed on is called in between. -/
namespace Go.Proofs.YtabcobadglgfkaaGreatDoor
open Go.RowKit

theorem Mx.keep {S : Nat → Prop} {w w' : World} (h : Mx w) (k : Keep S w w') (hS : ¬ S 2) : Mx w' := by
  obtain ⟨m, h⟩ := h
  refine ⟨m, Eq.trans ?_ h⟩
  exact World.cell?_of_block (w := w) (a := ⟨2, 0, none⟩) (k.block _ (World.block_lt_of_cell? _ _ h) hS)

/-- What a function that was handed on may write: Foot of the world in which it is called; I is what it has made of what it was told so far. -/
structure Visit {σ : Type} (Foot : World → Nat → Prop) (I : σ → World → Prop) : Prop where
  stay : ∀ S s w w', I s w → Keep S w w' → (∀ k, Foot w k → ¬ S k) → I s w' ∧ ∀ k, Foot w' k → Foot w k
  lt : ∀ s w k, I s w → Foot w k → k < w.heap.size
  glob : ∀ s w k, I s w → Foot w k → k ≠ 2 ∧ k ≠ 0 ∧ k ≠ 1 ∧ k ≠ 5

/-- A step in which such a function may have been called. -/
structure Vis (Foot : World → Nat → Prop) (w w' : World) : Prop where
  keep : Keep (fun k => Foot w k ∨ w.heap.size ≤ k) w w'
  foot : ∀ k, Foot w' k → Foot w k ∨ w.heap.size ≤ k
variable {σ : Type} {Foot : World → Nat → Prop} {I : σ → World → Prop}
theorem Visit.old (V : Visit Foot I) (s : σ) (w w' : World) (hI : I s w) (h : Old w w') : I s w' := (V.stay (fun _ => False) s w w' hI (Keep.of_old h) (fun _ _ h => h)).1
theorem Visit.foot (V : Visit Foot I) (s : σ) (w w' : World) (k : Nat) (hI : I s w) (h : Old w w') (hk : Foot w' k) : Foot w k := (V.stay (fun _ => False) s w w' hI (Keep.of_old h) (fun _ _ h => h)).2 k hk
theorem Vis.refl (w : World) : Vis Foot w w := ⟨Keep.refl _ _, fun _ h => Or.inl h⟩
theorem Vis.size {w w' : World} (h : Vis Foot w w') : w.heap.size ≤ w'.heap.size := h.keep.size
theorem Vis.trans {a b c : World} (h : Vis Foot a b) (k : Vis Foot b c) : Vis Foot a c where
  keep := h.keep.trans (k.keep.mono fun x _ hx => by
    rcases hx with hx | hx
    · exact h.foot x hx
    · exact Or.inr (Nat.le_trans h.size hx))
  foot := fun x hx => by
    rcases k.foot x hx with hx | hx
    · exact h.foot x hx
    · exact Or.inr (Nat.le_trans h.size hx)
theorem Vis.of_old (V : Visit Foot I) {s : σ} {w w' : World} (hI : I s w) (h : Old w w') : Vis Foot w w' := ⟨Keep.of_old h, fun k hk => Or.inl (V.foot s w w' k hI h hk)⟩
theorem Vis.old (V : Visit Foot I) {s : σ} {a b c : World} (h : Vis Foot a b) (hI : I s b) (k : Old b c) : Vis Foot a c := h.trans (Vis.of_old V hI k)
/-- A block that is new since a, and that no such call writes, is written. -/
theorem Vis.set (V : Visit Foot I) {s : σ} {a b : World} (h : Vis Foot a b) (hI : I s b) {x : Nat} (hx : a.heap.size ≤ x) (hn : ¬ Foot b x) (i : Nat) (v : Value) : Vis Foot a (b.setCell ⟨x, i, none⟩ v) ∧ I s (b.setCell ⟨x, i, none⟩ v) := by
  have hs := V.stay (· = x) s b _ hI ((Keep.refl _ b).set1 i v) (fun k hk e => hn (e ▸ hk))
  exact ⟨⟨h.keep.setCell (p := ⟨x, i, none⟩) (Or.inr (Or.inr hx)) v, fun k hk => h.foot k (hs.2 k hk)⟩, hs.1⟩
theorem Vis.grown (V : Visit Foot I) {s : σ} {a b c : World} {row : Option Nat} (h : Vis Foot a b) (hI : I s b) (hg : b.grownBy c row) (hr : ∀ g, row = some g → a.heap.size ≤ g ∧ ¬ Foot b g) : Vis Foot a c ∧ I s c := by
  have hs := V.stay (fun k => row = some k) s b c hI ((Keep.refl _ b).grown hg (fun k hk => Or.inr hk)) (fun k hk e => (hr k e).2 hk)
  exact ⟨⟨h.keep.grown hg (fun k hk => Or.inr (Or.inr (hr k hk).1)), fun k hk => h.foot k (hs.2 k hk)⟩, hs.1⟩
/-- A block that no such call writes. -/
def Safe (Foot : World → Nat → Prop) (w : World) (b : Nat) : Prop := b < w.heap.size ∧ ¬ Foot w b
theorem Vis.safe {w w' : World} {b : Nat} (h : Vis Foot w w') (hb : Safe Foot w b) : Safe Foot w' b := by
  have hsz := h.size
  refine ⟨by have := hb.1; omega, fun hf => ?_⟩
  rcases h.foot b hf with hf | hf
  · exact hb.2 hf
  · have := hb.1; omega
theorem Vis.block {w w' : World} {b : Nat} (h : Vis Foot w w') (hb : Safe Foot w b) : w'.heap[b]? = w.heap[b]? := h.keep.block b hb.1 (fun hx => by
  rcases hx with hx | hx
  · exact hb.2 hx
  · have := hb.1; omega)
theorem Vis.cell {w w' : World} {p : Addr} (h : Vis Foot w w') (hb : Safe Foot w p.block) : w'.cell? p = w.cell? p := World.cell?_of_block (w := w) (h.block hb)
theorem Safe.old (V : Visit Foot I) {s : σ} {w w' : World} {b : Nat} (hb : Safe Foot w b) (hI : I s w) (h : Old w w') : Safe Foot w' b := (Vis.of_old V hI h).safe hb
/-- What was made since is safe. -/
theorem Safe.new (V : Visit Foot I) {s : σ} {w w' : World} {b : Nat} (hI : I s w) (h : Old w w') (h0 : w.heap.size ≤ b) (h1 : b < w'.heap.size) : Safe Foot w' b :=
  ⟨h1, fun hf => by have := V.lt s w b hI (V.foot s w w' b hI h hf); omega⟩
theorem Vis.blk {w w' : World} {b : Nat} {vs : Array Value} {T : TypeId} (h : Vis Foot w w') (hb : Safe Foot w b) (k : Blk w b vs T) : Blk w' b vs T := (h.block hb).trans k
theorem Vis.own {w w' : World} {B sz : Nat} {e : TypeId} {v : Value} {n : Nat} {xs : List Value} (h : Vis Foot w w') (k : w.ownsRow B e sz v n xs) (hb : ∀ g, v.ownBlock = some g → Safe Foot w g) : w'.ownsRow B e sz v n xs := by
  refine ⟨k.1, ?_⟩
  rcases k.2 with hn | ⟨g, cap, cur, hv, hB, hbl, rest⟩
  · exact Or.inl hn
  · exact Or.inr ⟨g, cap, cur, hv, hB, (h.block (hb g (by rw [hv]; rfl))).trans hbl, rest⟩
theorem Vis.sl {w w' : World} {B : Nat} {v : Value} {xs : List Value} (h : Vis Foot w w') (k : Sl B w v xs) (hb : ∀ g, v.ownBlock = some g → Safe Foot w g) : Sl B w' v xs := by
  obtain ⟨p, cap, hv, h0, hx⟩ := k
  refine ⟨p, cap, hv, h0, fun hne => ?_⟩
  obtain ⟨b, off, hp, hB, hc⟩ := hx hne
  have hs : Safe Foot w b := hb b (by rw [hv, hp]; rfl)
  exact ⟨b, off, hp, hB, fun j hj => (h.cell (p := ⟨b, off + j, none⟩) hs).trans (hc j hj)⟩
theorem Vis.el {w w' : World} {v : Value} {es : List M.En} (h : Vis Foot w w') (k : El w v es) (hb : ∀ g, v.ownBlock = some g → Safe Foot w g) : El w' v es := by
  obtain ⟨p, cap, hv, h0, hc, hx⟩ := k
  refine ⟨p, cap, hv, h0, hc, fun hne => ?_⟩
  obtain ⟨b, off, hp, hB, hx⟩ := hx hne
  have hs : Safe Foot w b := hb b (by rw [hv, hp]; rfl)
  have hsz := h.size
  exact ⟨b, off, hp, by omega, fun j hj => ⟨(h.cell (p := ⟨b, off + j * 3, none⟩) hs).trans (hx j hj).1, (h.cell (p := ⟨b, off + j * 3 + 1, none⟩) hs).trans (hx j hj).2.1, (h.cell (p := ⟨b, off + j * 3 + 2, none⟩) hs).trans (hx j hj).2.2⟩⟩
theorem Vis.grp {w w' : World} {b n : Nat} {D : DataW Value} {fs : List M.Fi} (h : Vis Foot w w') (k : Grp w b n D fs) (hb : Safe Foot w b) (hr : ∀ s v g, D.atKey (.string s) void = .held v → v.ownBlock = some g → Safe Foot w g) : Grp w' b n D fs where
  own := by
    obtain ⟨es, clock, hbl, F, hs, hD⟩ := k.own
    exact ⟨es, clock, (h.block hb).trans hbl, F, hs, hD⟩
  at_ := fun s => by
    obtain ⟨v, hv, ho⟩ := k.at_ s
    exact ⟨v, hv, h.own ho (fun g hg => hr s v g hv hg)⟩
  apart := k.apart
  has := k.has

/-- The tables, and strings.Split's cell. -/
structure Env (w : World) : Prop where
  tab : Tab w
  tabs : Tabs w
  mx : Mx w
theorem Env.old {w w' : World} (h : Env w) (k : Old w w') : Env w' := ⟨h.tab.old k, h.tabs.old k, h.mx.old k⟩
theorem Vis.env (V : Visit Foot I) {s : σ} {w w' : World} (hI : I s w) (h : Vis Foot w w') (k : Env w) : Env w' := by
  have l1 : 2 < w.heap.size := by
    obtain ⟨m, hm⟩ := k.mx
    exact World.block_lt_of_cell? _ _ hm
  have l2 : 5 < w.heap.size := var_lt tab_num k.tab
  have l3 : 0 < w.heap.size := var_lt num_initial k.tabs.1
  have l4 : 1 < w.heap.size := var_lt num_orders k.tabs.2
  refine ⟨k.tab.keep h.keep ?_, k.tabs.keep h.keep ?_ ?_, k.mx.keep h.keep ?_⟩
  · rintro (hx | hx)
    · exact (V.glob s w _ hI hx).2.2.2 rfl
    · omega
  · rintro (hx | hx)
    · exact (V.glob s w _ hI hx).2.1 rfl
    · omega
  · rintro (hx | hx)
    · exact (V.glob s w _ hI hx).2.2.1 rfl
    · omega
  · rintro (hx | hx)
    · exact (V.glob s w _ hI hx).1 rfl
    · omega
end Go.Proofs.YtabcobadglgfkaaGreatDoor

/- What the laws of package tree open: files, the tables of strconv and blake, and the world's shape. -/
namespace Go.Proofs.YtabcobadglgfkaaGreatDoor
theorem env_of {w : World} (hm : Mx w) (ht : Tab w) (hb : Tabs w) : Env w := ⟨ht, hb, hm⟩
end Go.Proofs.YtabcobadglgfkaaGreatDoor
