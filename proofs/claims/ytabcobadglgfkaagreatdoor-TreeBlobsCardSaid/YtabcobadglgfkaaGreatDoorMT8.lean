/- Merged of: TreeK TreeKM TreeLM TreeL TreeRF. -/
import Derived.Test.YtabcobadglgfkaaGreatDoorMT3
import Derived.Test.YtabcobadglgfkaaGreatDoorMT2
import Derived.Test.YtabcobadglgfkaaGreatDoorShelf
import Derived.Test.YtabcobadglgfkaaGreatDoorMT1
import Derived.Test.YtabcobadglgfkaaGreatDoorMT7
import Derived.Test.YtabcobadglgfkaaGreatDoorMF3
import Derived.Deep.AppendLies
import Derived.Lib.SlicesCompact
import Derived.Sort.OwnSorted
import Derived.Outline
import Derived.Deep.CutBlock
import Derived.Deep.DeepCutAuto
/- The blobs of files. -/
namespace Go.Proofs.YtabcobadglgfkaaGreatDoor
open Go.RowKit Go.Sort

/-- Texts that the call owns, in a cell of a block of its own. -/
structure Bag (c B : Nat) (w : World) (v : Value) (l : List (List UInt8)) : Prop where
  box : Blk w c #[v] 43
  row : w.ownsRow B 9 1 v l.length (l.map vstr)
  lt : c < B
  le : B ≤ w.heap.size
def bagFoot (c : Nat) (w : World) (k : Nat) : Prop := k = c ∨ ∃ v, w.cell? ⟨c, 0, none⟩ = some v ∧ v.ownBlock = some k
theorem Bag.foot {c B : Nat} {w : World} {v : Value} {l : List (List UInt8)} (h : Bag c B w v l) {k : Nat} : bagFoot c w k ↔ k = c ∨ v.ownBlock = some k := by
  have hc := h.box.cellN 0 rfl
  unfold bagFoot
  rw [hc]
  constructor
  · rintro (e | ⟨u, hu, e⟩)
    · exact Or.inl e
    · have hu : v = u := by injection hu
      subst hu
      exact Or.inr e
  · rintro (e | e)
    · exact Or.inl e
    · exact Or.inr ⟨v, rfl, e⟩
/-- What the blobs are behind what was told so far. -/
def bagI (c B : Nat) (l0 : List (List UInt8)) (s : List (List M.En)) (w : World) : Prop := ∃ v, Bag c B w v (l0 ++ M.dirBlobs s)
theorem visit_bag (c B : Nat) (l0 : List (List UInt8)) (hg : ∀ k, (k = 2 ∨ k = 0 ∨ k = 1 ∨ k = 5) → k < c) : Visit (bagFoot c) (bagI c B l0) where
  stay := by
    rintro S s w w' ⟨v, h⟩ hk hd
    have hc : ¬ S c := hd c (h.foot.2 (Or.inl rfl))
    have h' : Bag c B w' v (l0 ++ M.dirBlobs s) := ⟨h.box.keep hk hc, by
      refine ⟨h.row.1, ?_⟩
      rcases h.row.2 with hn | ⟨g, cap, cur, hv, hB, hb, rest⟩
      · exact Or.inl hn
      · exact Or.inr ⟨g, cap, cur, hv, hB, (hk.block g (Array.getElem?_eq_some_iff.1 hb).1 (hd g (h.foot.2 (Or.inr (by rw [hv]; rfl))))).trans hb, rest⟩, h.lt, Nat.le_trans h.le hk.size⟩
    exact ⟨⟨v, h'⟩, fun k hf => h.foot.2 (h'.foot.1 hf)⟩
  lt := by
    rintro s w k ⟨v, h⟩ hf
    rcases h.foot.1 hf with rfl | e
    · exact h.box.lt
    · exact row_lt h.row k e
  glob := by
    rintro s w k ⟨v, h⟩ hf
    have hk : c ≤ k := by
      rcases h.foot.1 hf with rfl | e
      · exact Nat.le_refl _
      · have := row_from h.row k e
        have := h.lt
        omega
    exact ⟨fun e => by have := hg k (Or.inl e); omega, fun e => by have := hg k (Or.inr (Or.inl e)); omega, fun e => by have := hg k (Or.inr (Or.inr (Or.inl e))); omega, fun e => by have := hg k (Or.inr (Or.inr (Or.inr e))); omega⟩
end Go.Proofs.YtabcobadglgfkaaGreatDoor

/- How many directories there are: plain facts. -/
namespace Go.Proofs.YtabcobadglgfkaaGreatDoor

def weight (fs : List M.Fi) : Nat := (fs.map fun f => f.1.length).sum
theorem sum_mono {α : Type} : ∀ (l : List α) (f g : α → Nat), (∀ x ∈ l, f x ≤ g x) → (l.map f).sum ≤ (l.map g).sum
  | [], _, _, _ => by simp
  | x :: r, f, g, h => by
      have h1 := h x (by simp)
      have h2 := sum_mono r f g (fun y hy => h y (by simp [hy]))
      simp only [List.map_cons, List.sum_cons]
      omega
theorem sum_split {α : Type} : ∀ (l : List α) (f g : α → Nat), (l.map fun x => f x + g x).sum = (l.map f).sum + (l.map g).sum
  | [], _, _ => by simp
  | x :: r, f, g => by
      have h2 := sum_split r f g
      simp only [List.map_cons, List.sum_cons]
      omega
theorem sum_one (a : List UInt8) (k : Nat) : ∀ ns : List (List UInt8), ns.Nodup → (ns.map fun n => if a = n then k else 0).sum ≤ k
  | [], _ => by simp
  | n :: r, h => by
      have h' := List.nodup_cons.1 h
      have ih := sum_one a k r h'.2
      simp only [List.map_cons, List.sum_cons]
      by_cases e : a = n
      · subst e
        have h0 : (r.map fun n => if a = n then k else 0).sum ≤ (r.map fun _ => 0).sum := sum_mono r _ _ (fun x hx => by
          rw [if_neg (show ¬ a = x from fun e => h'.1 (by rw [e]; exact hx))]
          exact Nat.le_refl _)
        have h1 : (r.map fun _ => 0).sum = 0 := by clear ih h h' h0; induction r with | nil => rfl | cons x r ih => simpa using ih
        rw [if_pos rfl]; omega
      · rw [if_neg e]; omega
theorem grp_cons (f : M.Fi) (r : List M.Fi) (n : List UInt8) : weight (M.grp (f :: r) n) = (if M.head1 f.1 = n then f.1.length else 0) + weight (M.grp r n) := by
  unfold M.grp weight
  by_cases h : M.head1 f.1 = n <;> simp [h]
theorem grp_sum (ns : List (List UInt8)) (h : ns.Nodup) : ∀ fs : List M.Fi, (ns.map fun n => weight (M.grp fs n)).sum ≤ weight fs
  | [] => by
      have h1 : (ns.map fun n => weight (M.grp [] n)).sum ≤ (ns.map fun _ => 0).sum := sum_mono ns _ _ (fun _ _ => Nat.le_refl _)
      have h2 : (ns.map fun _ => 0).sum = 0 := by clear h h1; induction ns with | nil => rfl | cons x r ih => simpa using ih
      omega
  | f :: r => by
      have ih := grp_sum ns h r
      have h1 := sum_one (M.head1 f.1) f.1.length ns h
      have e : (ns.map fun n => weight (M.grp (f :: r) n)).sum = (ns.map fun n => if M.head1 f.1 = n then f.1.length else 0).sum + (ns.map fun n => weight (M.grp r n)).sum := by
        rw [← sum_split]
        congr 1
        exact List.map_congr_left fun n _ => grp_cons f r n
      have ew : weight (f :: r) = f.1.length + weight r := by simp [weight]
      omega
theorem under_weight (n : List UInt8) : ∀ G : List M.Fi, (∀ f ∈ G, 1 ≤ f.1.length) → weight (M.under G n) + G.length ≤ weight G
  | [], _ => by simp [weight, M.under]
  | f :: r, h => by
      have ih := under_weight n r (fun g hg => h g (by simp [hg]))
      have h1 := h f (by simp)
      have ew : weight (f :: r) = f.1.length + weight r := by simp [weight]
      by_cases hb : M.below f.1 n = true
      · have e : M.under (f :: r) n = M.tail n f :: M.under r n := by simp [M.under, hb]
        have et : weight (M.tail n f :: M.under r n) = (f.1.length - (n.length + 1)) + weight (M.under r n) := by simp [weight, M.tail]
        rw [e, et, ew, List.length_cons]; omega
      · have e : M.under (f :: r) n = M.under r n := by simp [M.under, hb]
        rw [e, ew, List.length_cons]; omega
theorem rising_nodup {l : List (List UInt8)} (h : M.rising l) : l.Nodup := h.imp fun h => M.bl_ne h
theorem all_count : ∀ (k : Nat) (fs : List M.Fi), (∀ f ∈ fs, f.1.length < k) → (M.all fs).length ≤ 1 + weight fs
  | k, fs, hk => by
      rw [M.all_eq, List.length_append, List.length_singleton, List.length_flatMap]
      have h1 : ((M.names fs).map fun n => (if (M.get fs n).2 = true then ([] : List (List M.En)) else M.all (M.under fs n)).length).sum ≤ ((M.names fs).map fun n => weight (M.grp fs n)).sum := by
        refine sum_mono _ _ _ fun n hn => ?_
        by_cases hg : (M.get fs n).2 = true
        · rw [if_pos hg]; simp
        · rw [if_neg hg]
          obtain ⟨f0, hf0, hh0⟩ := M.mem_names.1 hn
          have hkk := hk f0 hf0
          have hno : ∀ f ∈ fs, f.1 ≠ n := fun f hf e => hg (by
            unfold M.get
            cases hx : fs.find? (fun f => f.1 == n) with
            | some _ => rfl
            | none => have := List.find?_eq_none.1 hx f hf; simp [e] at this)
          have hG : ∀ f ∈ M.grp fs n, 1 ≤ f.1.length := fun f hf => by
            obtain ⟨hf1, hf2⟩ := List.mem_filter.1 hf
            have hf2 : M.head1 f.1 = n := by simpa using hf2
            rcases Nat.eq_zero_or_pos f.1.length with h0 | h0
            · have h0 := List.eq_nil_of_length_eq_zero h0
              rw [h0] at hf2
              exact absurd (h0.trans hf2) (hno f hf1)
            · exact h0
          have h2 := under_weight n (M.grp fs n) hG
          rw [M.under_grp (M.names_ne hn)] at h2
          have h3 : 1 ≤ (M.grp fs n).length := List.length_pos_iff.2 (fun e => by
            have : f0 ∈ M.grp fs n := List.mem_filter.2 ⟨hf0, by simpa using hh0⟩
            rw [e] at this; cases this)
          have ih := all_count (k - 1) (M.under fs n) (fun f hf => by
            obtain ⟨g, hg, hl, _⟩ := M.under_short hf
            have := hk g hg
            omega)
          omega
      have h2 := grp_sum (M.names fs) (rising_nodup (M.rising_setOf _)) fs
      omega
  termination_by k => k
  decreasing_by omega
theorem weight_le (fs : List M.Fi) (m : Nat) (h : ∀ f ∈ fs, f.1.length ≤ m) : weight fs ≤ fs.length * m := by
  induction fs with
  | nil => simp [weight]
  | cons f r ih =>
    have h1 := h f (by simp)
    have h2 := ih (fun g hg => h g (by simp [hg]))
    have ew : weight (f :: r) = f.1.length + weight r := by simp [weight]
    rw [ew, List.length_cons, Nat.add_mul]
    omega
end Go.Proofs.YtabcobadglgfkaaGreatDoor

/- Sorted texts, each once: plain facts. -/
namespace Go.Proofs.YtabcobadglgfkaaGreatDoor
open Go.Lib

theorem bl_or {a b : List UInt8} (h : a ≤ b) : a = b ∨ M.bl a b = true := by
  by_cases e : a = b
  · exact Or.inl e
  · exact Or.inr (bl_le h e)
theorem compact_upto (d : Array (List UInt8)) (hs : ∀ i j, i < j → j < d.size → d[i]! ≤ d[j]!) : ∀ m, m ≤ d.size →
    M.rising (compactUpTo d m) ∧ (∀ x, x ∈ compactUpTo d m ↔ ∃ j, j < m ∧ d[j]! = x) ∧ ∀ x ∈ compactUpTo d m, x = d[m - 1]! ∨ M.bl x d[m - 1]! = true
  | 0, _ => by
      have e : compactUpTo d 0 = [] := rfl
      rw [e]
      exact ⟨List.Pairwise.nil, fun x => by simp, fun x hx => by cases hx⟩
  | m + 1, hm => by
      obtain ⟨h1, h2, h3⟩ := compact_upto d hs m (by omega)
      rw [compactUpTo_succ]
      have hle : ∀ x ∈ compactUpTo d m, 0 < m → x = d[m]! ∨ M.bl x d[m]! = true := fun x hx h0 => by
        have hmm := bl_or (hs (m - 1) m (by omega) (by omega))
        rcases h3 x hx with e | e
        · rw [e]; exact hmm
        · rcases hmm with e2 | e2
          · rw [← e2]; exact Or.inr e
          · exact Or.inr (M.bl_trans e e2)
      have hpos : ∀ x ∈ compactUpTo d m, 0 < m := fun x hx => by
        obtain ⟨j, hj, _⟩ := (h2 x).1 hx
        omega
      by_cases hk : keeps d m = true
      · rw [if_pos hk]
        unfold keeps at hk
        rw [decide_eq_true_eq] at hk
        refine ⟨List.pairwise_append.2 ⟨h1, List.pairwise_singleton _ _, fun x hx y hy => ?_⟩, fun x => ?_, fun x hx => ?_⟩
        · rw [List.mem_singleton] at hy
          subst hy
          have h0 := hpos x hx
          have hne : d[m]! ≠ d[m - 1]! := by
            rcases hk with e | e
            · omega
            · exact e
          have hmm := bl_or (hs (m - 1) m (by omega) (by omega))
          rcases hmm with e | e
          · exact absurd e.symm hne
          · rcases h3 x hx with e2 | e2
            · rw [e2]; exact e
            · exact M.bl_trans e2 e
        · rw [List.mem_append, h2 x, List.mem_singleton]
          constructor
          · rintro (⟨j, hj, e⟩ | e)
            · exact ⟨j, by omega, e⟩
            · exact ⟨m, by omega, e.symm⟩
          · rintro ⟨j, hj, e⟩
            by_cases hjm : j = m
            · subst hjm; exact Or.inr e.symm
            · exact Or.inl ⟨j, by omega, e⟩
        · show x = d[m]! ∨ _
          rcases List.mem_append.1 hx with hx | hx
          · exact hle x hx (hpos x hx)
          · exact Or.inl (List.mem_singleton.1 hx)
      · rw [if_neg hk, List.append_nil]
        have hk' : m ≠ 0 ∧ d[m]! = d[m - 1]! := by
          unfold keeps at hk
          rw [decide_eq_true_eq] at hk
          refine ⟨fun e => hk (Or.inl e), ?_⟩
          by_cases e : d[m]! = d[m - 1]!
          · exact e
          · exact absurd (Or.inr e) hk
        refine ⟨h1, fun x => ?_, fun x hx => hle x hx (by omega)⟩
        rw [h2 x]
        constructor
        · rintro ⟨j, hj, e⟩; exact ⟨j, by omega, e⟩
        · rintro ⟨j, hj, e⟩
          by_cases hjm : j = m
          · subst hjm; exact ⟨j - 1, by omega, by rw [← hk'.2]; exact e⟩
          · exact ⟨j, by omega, e⟩
/-- Texts, sorted, each once. -/
theorem compact_sorted (ss : List (List UInt8)) : compact (ss.mergeSort fun x y => decide (x ≤ y)) = M.setOf ss := by
  have tr : ∀ a b c : List UInt8, decide (a ≤ b) = true → decide (b ≤ c) = true → decide (a ≤ c) = true := fun a b c h1 h2 => by simp only [decide_eq_true_eq] at *; exact List.le_trans h1 h2
  have tot : ∀ a b : List UInt8, (decide (a ≤ b) || decide (b ≤ a)) = true := fun a b => by simp only [Bool.or_eq_true, decide_eq_true_eq]; exact List.le_total a b
  have hp := List.pairwise_mergeSort tr tot ss
  have hm : ∀ x, x ∈ (ss.mergeSort fun x y => decide (x ≤ y)) ↔ x ∈ ss := fun x => (List.mergeSort_perm ss _).mem_iff
  generalize (ss.mergeSort fun x y => decide (x ≤ y)) = ts at *
  have hs : ∀ i j, i < j → j < ts.toArray.size → ts.toArray[i]! ≤ ts.toArray[j]! := fun i j hij hj => by
    have hj' : j < ts.length := by simpa using hj
    have h := List.pairwise_iff_getElem.1 hp i j (by omega) hj' hij
    simp only [decide_eq_true_eq] at h
    simpa [getElem!_pos, hj', show i < ts.length by omega] using h
  obtain ⟨h1, h2, _⟩ := compact_upto ts.toArray hs ts.length (by simp)
  refine M.setOf_ext h1 fun x => ?_
  rw [compact, h2 x, ← hm x]
  constructor
  · rintro ⟨j, hj, rfl⟩
    simp [getElem!_pos, hj]
  · intro hx
    obtain ⟨j, hj, rfl⟩ := List.getElem_of_mem hx
    exact ⟨j, hj, by simp [getElem!_pos, hj]⟩
end Go.Proofs.YtabcobadglgfkaaGreatDoor

/- The blobs of files: the walk. -/
namespace Go.Proofs.YtabcobadglgfkaaGreatDoor
open Go.RowKit Go.Sort

theorem dirBlobs_len (s : List (List M.En)) : (M.dirBlobs s).length ≤ s.length := by
  unfold M.dirBlobs
  rw [List.length_map]
  exact List.length_filter_le _ _
theorem dirBlobs_yes {s : List (List M.En)} {es : List M.En} (h : M.right es = true) : M.dirBlobs (s ++ [es]) = M.dirBlobs s ++ [M.bytes es] := by simp [M.dirBlobs, h]
theorem dirBlobs_no {s : List (List M.En)} {es : List M.En} (h : M.right es = false) : M.dirBlobs (s ++ [es]) = M.dirBlobs s := by simp [M.dirBlobs, h]
theorem infoString' : (Tryz.prog.info? 9).map (fun i => (i.zero, i.size, i.bytes)) = some (some (.string ⟨#[]⟩), 1, 16) := by kernel_rfl

def Globs (c : Nat) : Prop := ∀ k, (k = 2 ∨ k = 0 ∨ k = 1 ∨ k = 5) → k < c

set_option maxHeartbeats 2000000 in
set_option maxRecDepth 100000 in
theorem visits_bag (c B : Nat) (l0 : List (List UInt8)) (hg : Globs c) (N : Nat) (hN : l0.length + N ≤ 8000000000000) : Visits (bagFoot c) (bagI c B l0) N 51 #[.pointer (some ⟨c, 0, none⟩)] := by
  intro s v es W hs hI hE hel hne _
  have V := visit_bag c B l0 hg
  obtain ⟨u, hb⟩ := hI
  show Calls Tryz.prog 51 #[v, .pointer (some ⟨c, 0, none⟩)] W _
  have HEN := Lib.hid (encode_any v es W hE.tab hE.mx hel (by have := hne.1; omega) (fun e he => by have := hne.2 e he; unfold maxLen; omega))
  have HB := Lib.hid hb
  have HV := Lib.hid V
  have hdl := dirBlobs_len s
  clear hb V hel hne hE
  cases hrt : M.right es with
  | false =>
    have hee : M.encode es = ([], 11) := by unfold M.encode; rw [hrt]; rfl
    rw [hee] at HEN
    have HD := Lib.hid (dirBlobs_no (s := s) hrt)
    clear hrt hee
    go_enter Tryz.func51, Tryz.ntmps51
    go_wp2_with ((with_reducible refine HEN.out.mono ?_); rintro e w1 ⟨rfl, ho1⟩)
    go_end0
    refine ⟨rfl, ?_, Vis.of_old HV.out (s := s) ⟨u, HB.out⟩ ho1⟩
    have h := HV.out.old s W w1 ⟨u, HB.out⟩ ho1
    unfold bagI at h ⊢
    rw [HD.out]; exact h
  | true =>
    rw [right_yes hrt] at HEN
    have HD := Lib.hid (dirBlobs_yes (s := s) hrt)
    obtain ⟨i0, hi, hz0, hz1, hz2⟩ := info_parts infoString'
    obtain ⟨pu, cu, rfl⟩ : ∃ pu cu, u = .slice pu (l0 ++ M.dirBlobs s).length cu := by
      obtain ⟨p, cap, e⟩ := (Sl.of_row (xs := (l0 ++ M.dirBlobs s).map vstr) (by simpa using HB.out.row)).len
      exact ⟨p, cap, by rw [e, List.length_map]⟩
    have hll : (l0 ++ M.dirBlobs s).length ≤ l0.length + s.length := by rw [List.length_append]; omega
    have HSI := Lib.hid (show bagI c B l0 s W from ⟨_, HB.out⟩)
    have HD2 := Lib.hid (show l0 ++ M.dirBlobs (s ++ [es]) = (l0 ++ M.dirBlobs s) ++ [M.bytes es] from by rw [HD.out, List.append_assoc])
    clear hrt HD
    generalize M.bytes es = bs at *
    generalize l0 ++ M.dirBlobs s = l at *
    go_enter Tryz.func51, Tryz.ntmps51
    go_wp2_with fail
    refine HEN.out.mono ?_
    rintro e w1 ⟨rfl, ho1⟩
    have hbx := HB.out.box.old ho1
    have hc0 := hbx.cellN 0 rfl
    have hrow := row_keep HB.out.row (Keep.of_old (S := fun _ => False) ho1) (fun _ _ h => h)
    have hrowA : (w1.alloc (.cells #[S bs] 9)).ownsRow B 9 1 (.slice pu l.length cu) l.length (l.map vstr) := row_keep hrow (Keep.of_old (S := fun _ => False) (Old.alloc w1 _)) (fun _ _ h => h)
    have hB1 : l.length + 1 ≤ maxLen := by unfold maxLen; omega
    have hB2 : (l.length + 1) * 16 ≤ 140737488355328 := by omega
    have hB3 : B ≤ (w1.alloc (.cells #[S bs] 9)).heap.size := by rw [World.size_alloc]; have := HB.out.le; have := ho1.size; omega
    have HBXA := Lib.hid (show Blk (w1.alloc (.cells #[S bs] 9)) c #[.slice pu l.length cu] 43 from hbx.alloc _)
    have HO1 := Lib.hid ho1
    clear hbx hrow ho1
    go_wp2_with (at_builtin; refine wpList_append_own_at _ rfl _ _ 43 rfl B 9 i0 _ 1 16 Tryz.underlying43 hi hz0 hz1 hz2 rfl (by decide) _ _ _ rfl hrowA ⟨w1.heap.size, 0, none⟩ 1 1 [S bs] rfl rfl (cell_one_new _ _ _) (by intro u hu; rw [List.mem_singleton] at hu; subst hu; rfl) hB1 hB2 hB3 ?_)
    intro v' w3 hown3 hgrow3 _ hat3
    have hcr : (Value.slice pu l.length cu).ownBlock ≠ some c := fun e => by have := row_from HB.out.row c e; have := HB.out.lt; omega
    have hbx3 : Blk w3 c #[.slice pu l.length cu] 43 := HBXA.out.grown hgrow3 (fun e => hcr e)
    have hc3 := hbx3.cellN 0 rfl
    have hf3 := hbx3.free 0
    obtain ⟨pv, nv, cv, rfl⟩ : ∃ p n c, v' = .slice p n c := by
      rcases hown3.2 with ⟨hv, _⟩ | ⟨g, cap, cur, hv, _⟩
      · exact ⟨_, _, _, hv⟩
      · exact ⟨_, _, _, hv⟩
    have hcv : (Value.slice pv nv cv).ownBlock ≠ some c := fun e => by have := row_from hown3 c e; have := HB.out.lt; omega
    have hrow3 : w3.ownsRow B 9 1 (.slice pv nv cv) (l ++ [bs]).length ((l ++ [bs]).map vstr) := by
      rw [List.length_append, List.map_append]
      exact hown3
    have HN := Lib.hid (show Bag c B (w3.setCell ⟨c, 0, none⟩ (.slice pv nv cv)) (.slice pv nv cv) (l ++ [bs]) from ⟨hbx3.set 0 _, row_other hrow3 hcv 0 _, HB.out.lt, Nat.le_trans hB3 (Nat.le_trans hgrow3.size (by simp [World.setCell]))⟩)
    have HKP := Lib.hid (show Keep (fun k => bagFoot c W k ∨ W.heap.size ≤ k) W (w3.setCell ⟨c, 0, none⟩ (.slice pv nv cv)) from
      (((Keep.of_old HO1.out).alloc _).grown hgrow3 (fun k hk => Or.inr (Or.inl (HB.out.foot.2 (Or.inr hk))))).setCell (p := ⟨c, 0, none⟩) (Or.inr (Or.inl (HB.out.foot.2 (Or.inl rfl)))) _)
    have HFT := Lib.hid (fun k (hk : bagFoot c (w3.setCell ⟨c, 0, none⟩ (.slice pv nv cv)) k) => show bagFoot c W k ∨ W.heap.size ≤ k from by
      rcases HN.out.foot.1 hk with e | e
      · exact Or.inl (HB.out.foot.2 (Or.inl e))
      · rcases hat3 with h | h
        · exact Or.inl (HB.out.foot.2 (Or.inr (h ▸ e)))
        · rw [h] at e
          injection e with e
          have := HO1.out.size
          exact Or.inr (by omega))
    clear hown3 hgrow3 hat3 hrow3 hrowA hbx3
    go_wp2
    go_end0
    exact ⟨rfl, ⟨_, by rw [HD2.out]; exact HN.out⟩, ⟨HKP.out, HFT.out⟩⟩

theorem enter_blobs1 : ∀ args w, (callFunc 51 args).run Tryz.prog w = .ok (.enter 51 args) w := enters_of Tryz.func51 (by kernel_rfl) rfl
/-- Texts in a block of a slice, sorted in place. -/
theorem sort_row {B : Nat} {w : World} {p : Option Addr} {n cap : Nat} {l : List (List UInt8)} (h : w.ownsRow B 9 1 (.slice p n cap) l.length (l.map vstr)) (hl : l.length ≤ 9000000000000) :
    Calls Tryz.prog 52 #[.slice p n cap] w fun e w' => e = .returned (.tuple #[]) ∧ w'.ownsRow B 9 1 (.slice p n cap) l.length ((l.mergeSort fun x y => decide (x ≤ y)).map vstr) ∧ w.grownBy w' (Value.slice p n cap).ownBlock := by
  rcases h.2 with ⟨hv, hz⟩ | ⟨gb, cap', cur, hv, hbase, hgb, r1, r2, r3, r4⟩
  · injection hv with h1 h2 h3
    subst h1; subst h2; subst h3
    have hl0 : l = [] := List.eq_nil_of_length_eq_zero hz
    subst hl0
    refine (Tryz.slices_Sort_string_none none 0 w).mono ?_
    rintro e w' ⟨rfl, rfl⟩
    exact ⟨rfl, by simpa using h, ⟨rfl, rfl, rfl, Nat.le_refl _, fun _ _ _ => rfl⟩⟩
  · injection hv with h1 h2 h3
    subst h1; subst h2; subst h3
    have hH : Holds encStr w gb 0 l.toArray := holds_of_block hgb (by rw [Nat.mul_one] at r4; exact r4)
    refine (Tryz.slices_Sort_string gb 0 cap l w hH (Array.getElem?_eq_some_iff.1 hgb).1 (by omega)).mono ?_
    rintro e w' ⟨rfl, nn, os, rfl⟩
    exact ⟨rfl, ownsRow_sorted (by simp) hbase hgb r1 r2 r3, grownBy_sorted _⟩
/-- Sorted texts, each once. -/
theorem compact_row {B : Nat} {w : World} {p : Option Addr} {n cap : Nat} {l : List (List UInt8)} (h : w.ownsRow B 9 1 (.slice p n cap) l.length (l.map vstr)) (hl : l.length ≤ 9000000000000) :
    Calls Tryz.prog 53 #[.slice p n cap] w fun e w' => ∃ v, e = .returned v ∧ Sl w'.heap.size w' v ((Lib.compact l).map vstr) ∧ v.ownBlock = (Value.slice p n cap).ownBlock ∧ w.grownBy w' (Value.slice p n cap).ownBlock := by
  rcases h.2 with ⟨hv, hz⟩ | ⟨gb, cap', cur, hv, hbase, hgb, r1, r2, r3, r4⟩
  · injection hv with h1 h2 h3
    subst h1; subst h2; subst h3
    have hl0 : l = [] := List.eq_nil_of_length_eq_zero hz
    subst hl0
    refine (Tryz.slices_Compact_string_empty none 0 w).mono ?_
    rintro e w' ⟨rfl, rfl⟩
    exact ⟨_, rfl, ⟨none, 0, rfl, fun _ => rfl, fun h => absurd rfl h⟩, rfl, ⟨rfl, rfl, rfl, Nat.le_refl _, fun _ _ _ => rfl⟩⟩
  · injection hv with h1 h2 h3
    subst h1; subst h2; subst h3
    have hH : Holds encStr w gb 0 l.toArray := holds_of_block hgb (by rw [Nat.mul_one] at r4; exact r4)
    have hcl : (Lib.compact l).length ≤ l.length := by unfold Lib.compact Lib.compactUpTo; rw [List.length_map]; exact Nat.le_trans (List.length_filter_le _ _) (by simp)
    refine (Tryz.slices_Compact_string gb 0 cap l w hH (by omega) r1).mono ?_
    rintro e w' ⟨rfl, q, rfl⟩
    have hrow := ownsRow_sorted (n := q) (os := #[]) (ss := l) (ts := Lib.compact l ++ List.replicate (l.length - (Lib.compact l).length) []) (by simp; omega) hbase hgb r1 r2 r3
    have hg := grownBy_sorted (w := w) (g := gb) (n := q) (os := #[]) (Lib.compact l ++ List.replicate (l.length - (Lib.compact l).length) []).toArray
    rw [show ∀ W : World, grow W #[] = W from fun W => by simp [grow]] at hrow hg
    have hsl := Sl.of_row (xs := (Lib.compact l ++ List.replicate (l.length - (Lib.compact l).length) []).map vstr) (by
      have e : ((Lib.compact l ++ List.replicate (l.length - (Lib.compact l).length) []).map vstr).length = l.length := by simp; omega
      rw [e]
      exact hrow)
    refine ⟨_, rfl, ⟨_, cap, by rw [List.length_map], (fun h => by cases h), fun hne => ?_⟩, rfl, hg⟩
    obtain ⟨b, off, hp, hb, hc⟩ := hsl.at (by intro e; apply hne; simp at e; simp [e])
    refine ⟨b, off, hp, hb, fun j hj => ?_⟩
    rw [hc j (by simp at hj ⊢; omega), List.map_append, List.getElem?_append_left hj]
end Go.Proofs.YtabcobadglgfkaaGreatDoor

/- Texts in a rising list: the document's add. -/
namespace Go.Proofs.YtabcobadglgfkaaGreatDoor
open Go.RowKit

theorem insN_ahead : ∀ (a b : List (List UInt8)) (n : List UInt8), (∀ m ∈ a, M.bl m n = true) → M.insN (a ++ b) n = a ++ M.insN b n
  | [], b, n, _ => rfl
  | m :: a, b, n, h => by
      rw [List.cons_append, M.insN, if_pos (h m (by simp)), insN_ahead a b n (fun x hx => h x (by simp [hx]))]
      rfl
/-- Where a text belongs. -/
def Spot (l : List (List UInt8)) (n : List UInt8) (k : Nat) : Prop := k ≤ l.length ∧ (∀ j (hj : j < l.length), j < k → M.bl l[j] n = true) ∧ ∀ (hk : k < l.length), M.bl l[k] n = false
theorem Spot.split {l : List (List UInt8)} {n : List UInt8} {k : Nat} (h : Spot l n k) : M.insN l n = l.take k ++ M.insN (l.drop k) n := by
  conv => lhs; rw [← List.take_append_drop k l]
  refine insN_ahead _ _ _ fun m hm => ?_
  obtain ⟨j, hj, rfl⟩ := List.getElem_of_mem hm
  rw [List.length_take] at hj
  rw [List.getElem_take]
  exact h.2.1 j (by omega) (by omega)
theorem Spot.same {l : List (List UInt8)} {n : List UInt8} {k : Nat} (h : Spot l n k) (hk : k < l.length) (e : l[k] = n) : M.insN l n = l := by
  rw [h.split, List.drop_eq_getElem_cons hk, M.insN, if_neg (by rw [h.2.2 hk]; simp), if_pos e, ← List.drop_eq_getElem_cons hk, List.take_append_drop]
theorem Spot.other {l : List (List UInt8)} {n : List UInt8} {k : Nat} (h : Spot l n k) (e : ∀ (hk : k < l.length), l[k] ≠ n) : M.insN l n = l.take k ++ [n] ++ l.drop k := by
  rw [h.split, List.append_assoc]
  congr 1
  by_cases hk : k < l.length
  · rw [List.drop_eq_getElem_cons hk, M.insN, if_neg (by rw [h.2.2 hk]; simp), if_neg (e hk)]; rfl
  · rw [List.drop_eq_nil_of_le (by omega)]; rfl

/-- The slice v reads as the texts l. -/
def Tl (w : World) (v : Value) (l : List (List UInt8)) : Prop :=
  ∃ p cap, v = .slice p l.length cap ∧ (p = none → cap = 0) ∧ l.length ≤ cap ∧ (l ≠ [] → ∃ b off, p = some ⟨b, off, none⟩ ∧ b < w.heap.size ∧ ∀ j (h : j < l.length), w.cell? ⟨b, off + j, none⟩ = some (S l[j]))
theorem Tl.old {w w' : World} {v : Value} {l : List (List UInt8)} (h : Tl w v l) (k : Old w w') : Tl w' v l := by
  obtain ⟨p, cap, hv, h0, hc, hx⟩ := h
  refine ⟨p, cap, hv, h0, hc, fun hne => ?_⟩
  obtain ⟨b, off, hp, hb, hx⟩ := hx hne
  have hs := k.size
  exact ⟨b, off, hp, by omega, fun j hj => (k.cell (p := ⟨b, off + j, none⟩) hb).trans (hx j hj)⟩
theorem Tl.drewN {w : World} {v : Value} {l : List (List UInt8)} (h : Tl w v l) (n : Nat) : Tl (w.drewN n) v l := h
theorem Tl.len {w : World} {v : Value} {l : List (List UInt8)} (h : Tl w v l) : ∃ p cap, v = .slice p l.length cap := by
  obtain ⟨p, cap, hv, _⟩ := h
  exact ⟨p, cap, hv⟩
theorem Tl.at {w : World} {p : Option Addr} {n cap : Nat} {l : List (List UInt8)} (h : Tl w (.slice p n cap) l) (hne : l ≠ []) :
    ∃ b off, p = some ⟨b, off, none⟩ ∧ b < w.heap.size ∧ ∀ j (h : j < l.length), w.cell? ⟨b, off + j, none⟩ = some (S l[j]) := by
  obtain ⟨p', cap', hv, _, _, hx⟩ := h
  injection hv with h1 h2 h3
  subst h1
  exact hx hne
theorem Tl.caps {w : World} {p : Option Addr} {n cap : Nat} {l : List (List UInt8)} (h : Tl w (.slice p n cap) l) : l.length = n ∧ n ≤ cap ∧ (p = none → cap = 0) := by
  obtain ⟨p', cap', hv, h0, hc, _⟩ := h
  injection hv with h1 h2 h3
  subst h1; subst h2; subst h3
  exact ⟨rfl, hc, h0⟩
theorem Tl.nil (w : World) : Tl w (.slice none 0 0) [] := ⟨none, 0, rfl, fun _ => rfl, Nat.le_refl _, fun h => absurd rfl h⟩
/-- The call owns the slice v of texts. -/
abbrev TOwn (B : Nat) (w : World) (v : Value) (l : List (List UInt8)) : Prop := w.ownsRow B 9 1 v l.length (l.map vstr)
theorem TOwn.tl {B : Nat} {w : World} {v : Value} {l : List (List UInt8)} (h : TOwn B w v l) : Tl w v l := by
  obtain ⟨_, ⟨hv, hn⟩ | ⟨g, cap, cur, hv, hg, hb, hcap, hmax, hsz, htake⟩⟩ := h
  · rw [List.eq_nil_of_length_eq_zero hn, hv]; exact Tl.nil w
  · refine ⟨_, cap, hv, (fun h => by cases h), hcap, fun _ => ⟨g, 0, rfl, (Array.getElem?_eq_some_iff.1 hb).1, fun j hj => ?_⟩⟩
    have : (l.map vstr)[j]? = cur[j]? := by
      rw [← htake, Nat.mul_one, List.getElem?_take, if_pos hj]; simp
    have e : (l.map vstr)[j]? = some (S l[j]) := by simp [hj, vstr]
    rw [Nat.zero_add, ← e, this]
    simp [World.cell?, hb]
theorem TOwn.nil (B : Nat) (w : World) : TOwn B w (.slice none 0 0) [] := World.ownsRow_nil w B _ 1
theorem TOwn.old {B : Nat} {w w' : World} {v : Value} {l : List (List UInt8)} (h : TOwn B w v l) (k : Old w w') : TOwn B w' v l := row_keep h (Keep.of_old (S := fun _ => False) k) (fun _ _ h => h)
theorem TOwn.mono {B B' : Nat} {w : World} {v : Value} {l : List (List UInt8)} (h : TOwn B w v l) (hB : B' ≤ B) : TOwn B' w v l := by
  refine ⟨h.1, ?_⟩
  rcases h.2 with hn | ⟨g, cap, cur, hv, hg, rest⟩
  · exact Or.inl hn
  · exact Or.inr ⟨g, cap, cur, hv, by omega, rest⟩
theorem Tl.news {w : World} {a : Addr} {n cap : Nat} {l : List (List UInt8)} (h : Tl w (.slice (some a) n cap) l) : ∀ j u, (l.map vstr)[j]? = some u → w.cell? (a.add j) = some u := by
  intro j u hj
  obtain ⟨hjl, hju⟩ := List.getElem?_eq_some_iff.1 hj
  rw [List.length_map] at hjl
  obtain ⟨b, off, ha, _, hc⟩ := h.at (by intro h; rw [h] at hjl; simp at hjl)
  cases ha
  rw [Addr.add_lit, hc j hjl, ← hju]
  simp [vstr]
theorem Tl.take {w : World} {p : Option Addr} {n cap : Nat} {l : List (List UInt8)} (h : Tl w (.slice p n cap) l) (k : Nat) (hk : k ≤ n) : Tl w (.slice p k cap) (l.take k) := by
  obtain ⟨hn, hcap, h0⟩ := h.caps
  refine ⟨p, cap, by rw [List.length_take, Nat.min_eq_left (by omega)], h0, by rw [List.length_take]; omega, fun hne => ?_⟩
  obtain ⟨b, off, hp, hb, hcc⟩ := h.at (by intro h; rw [h] at hne; simp at hne)
  refine ⟨b, off, hp, hb, fun j hj => ?_⟩
  rw [List.length_take] at hj
  rw [List.getElem_take]
  exact hcc j (by omega)
theorem Tl.drop {w : World} {b off n cap : Nat} {l : List (List UInt8)} (h : Tl w (.slice (some ⟨b, off, none⟩) n cap) l) (k : Nat) (hk : k ≤ n) : Tl w (.slice (some ⟨b, off + k, none⟩) (n - k) (cap - k)) (l.drop k) := by
  obtain ⟨hn, hcap, h0⟩ := h.caps
  refine ⟨_, _, by rw [List.length_drop, hn], (fun h => by cases h), by rw [List.length_drop]; omega, fun hne => ?_⟩
  obtain ⟨b', off', hp, hb, hcc⟩ := h.at (by intro h; rw [h] at hne; simp at hne)
  cases hp
  refine ⟨b, off + k, rfl, hb, fun j hj => ?_⟩
  rw [List.length_drop] at hj
  have := hcc (k + j) (by omega)
  rw [List.getElem_drop, Nat.add_assoc]
  exact this
theorem Tl.void (w : World) (p : Option Addr) (n k cap : Nat) (l : List (List UInt8)) (hn : l.length = n) (hk : n ≤ k) (h0 : p = none → cap = 0) : Tl w (.slice p (n - k) cap) (l.drop k) := by
  rw [List.drop_eq_nil_of_le (by omega), show n - k = 0 by omega]
  exact ⟨p, cap, rfl, h0, Nat.zero_le _, fun h => absurd rfl h⟩
theorem texts_plain (l : List (List UInt8)) : ∀ u ∈ l.map vstr, u.oneCell' = true := by
  intro u hu
  obtain ⟨s, _, rfl⟩ := List.mem_map.1 hu
  rfl
theorem Tl.one (w : World) (s : List UInt8) : Tl (w.alloc (.cells #[S s] 9)) (.slice (some ⟨w.heap.size, 0, none⟩) 1 1) [s] := by
  refine ⟨_, 1, rfl, (fun h => by cases h), Nat.le_refl _, fun _ => ⟨w.heap.size, 0, rfl, by simp, fun j hj => ?_⟩⟩
  have hb := Blk.new w #[S s] 9
  obtain rfl : j = 0 := by simpa using hj
  exact hb.cellN 0 rfl

theorem wpList_append_texts {w : World} {ops : Array Oper} {rest : List Oper} {o : Oper} {a : Act} {Q : Exit → Act → World → Prop} (hgd : o.guard = none) (s x : Operand)
    (ho : o.op = .call { callee := .builtin .append, args := #[s, x], argTypes := #[43, 43] })
    (B : Nat) (v : Value) (acc : List (List UInt8)) (hs : a.eval s = v) (hown : TOwn B w v acc) (xv : Value) (gs : List (List UInt8)) (hx : a.eval x = xv) (hfl : Tl w xv gs) (hlen : acc.length + gs.length ≤ 2199023255552) (hB : B ≤ w.heap.size)
    (h : ∀ v' w', TOwn B w' v' (acc ++ gs) → w.grownBy w' v.ownBlock → wpList Tryz.prog ops Q rest (a.put o.dst v') w') : wpList Tryz.prog ops Q (o :: rest) a w := by
  obtain ⟨i0, hi, hz0, hz1, hz2⟩ := info_parts infoString
  obtain ⟨p, cap, rfl⟩ := hfl.len
  cases p with
  | none =>
    obtain ⟨_, hc, h0⟩ := hfl.caps
    have hc0 := h0 rfl
    have hg : gs = [] := List.eq_nil_of_length_eq_zero (by omega)
    subst hc0; subst hg
    refine wpList_append_own_none hgd s x 43 ho B 9 i0 1 Tryz.underlying43 hi v acc.length (acc.map vstr) hs hown hx ?_
    exact h v w (by rw [List.append_nil]; exact hown) ⟨rfl, rfl, rfl, Nat.le_refl _, fun _ _ _ => rfl⟩
  | some ad =>
    refine wpList_append_own w hgd s x 43 ho B 9 i0 _ 1 16 Tryz.underlying43 hi hz0 hz1 hz2 rfl (by decide) v acc.length (acc.map vstr) hs hown ad gs.length cap (gs.map vstr) hx (by simp) hfl.news (texts_plain gs) (by unfold maxLen; omega) (by omega) hB ?_
    intro v' w' h1 h2 _
    refine h v' w' ?_ h2
    show w'.ownsRow B 9 1 v' (acc ++ gs).length ((acc ++ gs).map vstr)
    rw [List.map_append, List.length_append]
    exact h1
theorem Old.grownRow {B sz : Nat} {T : TypeId} {a w w2 : World} {u : Value} {n : Nat} {xs : List Value} (h : w.ownsRow B T sz u n xs) (ha : a.heap.size ≤ B) (ho : Old a w) (h2 : w.grownBy w2 u.ownBlock) : Old a w2 :=
  Keep.old ((Keep.of_old (S := fun _ => False) ho).grown h2 (fun q hq => Or.inl (Nat.le_trans ha (row_from h q hq)))) (fun _ _ h => h)

set_option maxHeartbeats 4000000 in
set_option maxRecDepth 100000 in
theorem add_any (v : Value) (l : List (List UInt8)) (s : List UInt8) (w : World) (h : Tl w v l) (hl : l.length ≤ 1099511627776) :
    Calls Tryz.prog 54 #[v, S s] w fun e w' => ∃ u, e = .returned u ∧ Tl w' u (M.insN l s) ∧ Old w w' := by
  obtain ⟨p, cap, rfl⟩ := h.len
  have H := Lib.hid h
  clear h
  obtain ⟨_, hcap, hp0⟩ := H.out.caps
  go_enter Tryz.func54, Tryz.ntmps54
  go_upto_block 0 with (fail)
  go_cut [5] (fun i wx => ∃ k : Nat, i = .int .i64 k ∧ wx = w ∧ Hid (Spot l s k))
  case first =>
    go_wp2
    go_loopw [5] (fun i wr => ∃ k : Nat, k ≤ l.length ∧ i = .int .i64 k ∧ wr = w ∧ Hid (∀ j (hj : j < l.length), j < k → M.bl l[j] s = true)) (fun i _ => l.length - (intOf i).toNat)
    case atStart => exact ⟨0, Nat.zero_le _, rfl, rfl, Lib.hid (fun j _ h => absurd h (Nat.not_lt_zero _))⟩
    case round =>
      obtain ⟨k, hk, rfl, rfl, hall⟩ := hrel
      by_cases hlt : k < l.length
      · obtain ⟨b, off, rfl, hb, hc⟩ := H.out.at (by intro h; rw [h] at hlt; exact absurd hlt (Nat.not_lt_zero _))
        have c0 := hc k hlt
        have HSP := Lib.hid (show M.bl l[k] s = false → Spot l s k from fun h => ⟨hk, hall.out, fun _ => h⟩)
        have HN := Lib.hid (show M.bl l[k] s = true → ∀ j (hj : j < l.length), j < k + 1 → M.bl l[j] s = true from fun h j hj hjk => by
          by_cases he : j = k
          · subst he; exact h
          · exact hall.out j hj (by omega))
        clear hc hb hall
        generalize l[k] = x at *
        generalize hbl : M.bl x s = r at *
        cases r with
        | true =>
          have HN2 := Lib.hid (HN.out rfl)
          clear HN HSP
          go_wp2
          go_roundw
          case rel => exact ⟨k + 1, by omega, by go_num, trivial, HN2⟩
          case measure => simp [intOf]; omega
        | false =>
          have HS2 := Lib.hid (HSP.out rfl)
          clear HN HSP
          go_wp2
          go_meet
          case rel => exact ⟨k, rfl, rfl, HS2⟩
      · obtain rfl : k = l.length := by omega
        have HS2 := Lib.hid (show Spot l s l.length from ⟨Nat.le_refl _, hall.out, fun h => absurd h (Nat.lt_irrefl _)⟩)
        clear hall
        go_wp2
        go_meet
        case rel => exact ⟨l.length, rfl, rfl, HS2⟩
  case rest =>
    obtain ⟨k, rfl, hwx, hsp⟩ := hcut
    obtain rfl := hwx.symm
    have hk := hsp.out.1
    by_cases hlt : k < l.length
    · obtain ⟨b, off, rfl, hb, hc⟩ := H.out.at (by intro h; rw [h] at hlt; exact absurd hlt (Nat.not_lt_zero _))
      have c0 := hc k hlt
      clear hc
      by_cases he : l[k] = s
      · have HIN := Lib.hid (hsp.out.same hlt he)
        have e1 : (l[k] == s) = true := by rw [beq_list, decide_eq_true he]
        clear hsp he
        generalize l[k] = x at *
        go_wp2
        go_ret
        exact ⟨_, rfl, by rw [HIN.out]; exact H.out, Below.refl _ _⟩
      · have HIN := Lib.hid (hsp.out.other (fun _ => he))
        have e1 : (l[k] == s) = false := by rw [beq_list, decide_eq_false he]
        clear hsp he
        generalize l[k] = x at *
        have HT := Lib.hid (H.out.take k hk)
        have hlt2 : (l.take k).length = k := by rw [List.length_take]; omega
        have hld : (l.drop k).length ≤ l.length := by rw [List.length_drop]; omega
        have hmc : (k : Int) ≤ (cap : Int) := by omega
        go_wp2_with (at_builtin; refine wpList_append_texts rfl _ _ rfl w.heap.size _ [] rfl (TOwn.nil _ _) _ (l.take k) rfl HT.out (by rw [List.length_nil]; omega) (Nat.le_refl _) ?_)
        intro v1 w3 hown1 hgrow1
        have ho3 : Old w w3 := Old.grownRow (TOwn.nil w.heap.size w) (Nat.le_refl _) (Below.refl _ _) hgrow1
        have hown1' : TOwn w.heap.size (w3.alloc (.cells #[S s] 9)) v1 (l.take k) := hown1.old (Old.alloc _ _)
        have HONE := Lib.hid (Tl.one w3 s)
        have HO3 := Lib.hid (ho3.trans (Old.alloc w3 (.cells #[S s] 9)))
        have hB1 := HO3.out.size
        clear hgrow1 hown1 HT ho3
        go_wp2_with (at_builtin; refine wpList_append_texts rfl _ _ rfl w.heap.size _ (l.take k) rfl hown1' _ [s] rfl HONE.out (by rw [hlt2, List.length_singleton]; omega) hB1 ?_)
        intro v2 w4 hown2 hgrow2
        have ho4 : Old w w4 := Old.grownRow hown1' (Nat.le_refl _) HO3.out hgrow2
        have HO4 := Lib.hid ho4
        have HOWN2 := Lib.hid hown2
        have hB2 := ho4.size
        have HG := Lib.hid ((H.out.old HO4.out).drop k hk)
        clear hown1' hgrow2 hown2 ho4 HONE HO3
        go_wp2_with (at_builtin; refine wpList_append_texts rfl _ _ rfl w.heap.size _ (l.take k ++ [s]) rfl HOWN2.out _ (l.drop k) rfl HG.out (by rw [List.length_append, List.length_singleton, hlt2]; omega) hB2 ?_)
        intro v3 w5 hown3 hgrow3
        have HO5 := Lib.hid (Old.grownRow HOWN2.out (Nat.le_refl _) HO4.out hgrow3)
        have HOWN5 := Lib.hid hown3.tl
        clear hown3 hgrow3
        go_wp2
        go_ret
        exact ⟨_, rfl, by rw [HIN.out, List.append_assoc]; exact HOWN5.out, HO5.out⟩
    · obtain rfl : k = l.length := by omega
      have HIN := Lib.hid (hsp.out.other (fun h => absurd h (Nat.lt_irrefl _)))
      clear hsp
      cases p with
      | none =>
        have hc0 := hp0 rfl
        subst hc0
        obtain rfl : l = [] := List.eq_nil_of_length_eq_zero (by omega)
        have HT := Lib.hid H.out
        have hlt2 : (([] : List (List UInt8))).length = 0 := rfl
        have hld : (([] : List (List UInt8))).length ≤ 0 := Nat.le_refl _
        have hmc : (0 : Int) ≤ (0 : Int) := by omega
        go_wp2_with (at_builtin; refine wpList_append_texts rfl _ _ rfl w.heap.size _ [] rfl (TOwn.nil _ _) _ (([] : List (List UInt8))) rfl HT.out (by rw [List.length_nil]; omega) (Nat.le_refl _) ?_)
        intro v1 w3 hown1 hgrow1
        have ho3 : Old w w3 := Old.grownRow (TOwn.nil w.heap.size w) (Nat.le_refl _) (Below.refl _ _) hgrow1
        have hown1' : TOwn w.heap.size (w3.alloc (.cells #[S s] 9)) v1 (([] : List (List UInt8))) := hown1.old (Old.alloc _ _)
        have HONE := Lib.hid (Tl.one w3 s)
        have HO3 := Lib.hid (ho3.trans (Old.alloc w3 (.cells #[S s] 9)))
        have hB1 := HO3.out.size
        clear hgrow1 hown1 HT ho3
        go_wp2_with (at_builtin; refine wpList_append_texts rfl _ _ rfl w.heap.size _ (([] : List (List UInt8))) rfl hown1' _ [s] rfl HONE.out (by rw [hlt2, List.length_singleton]; omega) hB1 ?_)
        intro v2 w4 hown2 hgrow2
        have ho4 : Old w w4 := Old.grownRow hown1' (Nat.le_refl _) HO3.out hgrow2
        have HO4 := Lib.hid ho4
        have HOWN2 := Lib.hid hown2
        have hB2 := ho4.size
        have HG := Lib.hid (Tl.void w4 none 0 0 0 [] rfl (Nat.le_refl _) (fun _ => rfl))
        clear hown1' hgrow2 hown2 ho4 HONE HO3
        go_wp2_with (at_builtin; refine wpList_append_texts rfl _ _ rfl w.heap.size _ (([] : List (List UInt8)) ++ [s]) rfl HOWN2.out _ (([] : List (List UInt8))) rfl HG.out (by rw [List.length_append, List.length_singleton, hlt2]; omega) hB2 ?_)
        intro v3 w5 hown3 hgrow3
        have HO5 := Lib.hid (Old.grownRow HOWN2.out (Nat.le_refl _) HO4.out hgrow3)
        have HOWN5 := Lib.hid hown3.tl
        clear hown3 hgrow3
        go_wp2
        go_ret
        exact ⟨_, rfl, by rw [HIN.out, List.append_assoc]; exact HOWN5.out, HO5.out⟩
      | some ad =>
        have hll : (l.take l.length) = l := List.take_length
        have hdd : (l.drop l.length) = [] := List.drop_eq_nil_of_le (Nat.le_refl _)
        rw [hll, hdd] at HIN
        by_cases hce : cap = l.length
        · subst hce
          have HT := Lib.hid (show Tl w _ l from by have := H.out.take l.length hk; rwa [hll] at this)
          have hlt2 : l.length = l.length := rfl
          have hld : ([] : List (List UInt8)).length ≤ l.length := Nat.zero_le _
          have hmc : (l.length : Int) ≤ (l.length : Int) := by omega
          go_wp2_with (at_builtin; refine wpList_append_texts rfl _ _ rfl w.heap.size _ [] rfl (TOwn.nil _ _) _ l rfl HT.out (by rw [List.length_nil]; omega) (Nat.le_refl _) ?_)
          intro v1 w3 hown1 hgrow1
          have ho3 : Old w w3 := Old.grownRow (TOwn.nil w.heap.size w) (Nat.le_refl _) (Below.refl _ _) hgrow1
          have hown1' : TOwn w.heap.size (w3.alloc (.cells #[S s] 9)) v1 l := hown1.old (Old.alloc _ _)
          have HONE := Lib.hid (Tl.one w3 s)
          have HO3 := Lib.hid (ho3.trans (Old.alloc w3 (.cells #[S s] 9)))
          have hB1 := HO3.out.size
          clear hgrow1 hown1 HT ho3
          go_wp2_with (at_builtin; refine wpList_append_texts rfl _ _ rfl w.heap.size _ l rfl hown1' _ [s] rfl HONE.out (by rw [List.length_singleton]; omega) hB1 ?_)
          intro v2 w4 hown2 hgrow2
          have ho4 : Old w w4 := Old.grownRow hown1' (Nat.le_refl _) HO3.out hgrow2
          have HO4 := Lib.hid ho4
          have HOWN2 := Lib.hid hown2
          have hB2 := ho4.size
          have HG := Lib.hid (show ∀ (a' : Addr) (c' : Nat), Tl w4 (.slice (some a') 0 c') ([] : List (List UInt8)) from fun a' c' => ⟨some a', c', rfl, (fun h => by cases h), Nat.zero_le _, fun h => absurd rfl h⟩)
          clear hown1' hgrow2 hown2 ho4 HONE HO3
          go_wp2_with (at_builtin; refine wpList_append_texts rfl _ _ rfl w.heap.size _ (l ++ [s]) rfl HOWN2.out _ ([] : List (List UInt8)) rfl (HG.out _ _) (by rw [List.length_append, List.length_singleton]; simp; omega) hB2 ?_)
          intro v3 w5 hown3 hgrow3
          have HO5 := Lib.hid (Old.grownRow HOWN2.out (Nat.le_refl _) HO4.out hgrow3)
          have HOWN5 := Lib.hid hown3.tl
          clear hown3 hgrow3
          go_wp2
          go_ret
          exact ⟨_, rfl, by rw [HIN.out, List.append_assoc]; exact HOWN5.out, HO5.out⟩
        · have hlc : l.length < cap := by omega
          have HT := Lib.hid (show Tl w _ l from by have := H.out.take l.length hk; rwa [hll] at this)
          have hlt2 : l.length = l.length := rfl
          have hld : ([] : List (List UInt8)).length ≤ l.length := Nat.zero_le _
          have hmc : (l.length : Int) ≤ (cap : Int) := by omega
          go_wp2_with (at_builtin; refine wpList_append_texts rfl _ _ rfl w.heap.size _ [] rfl (TOwn.nil _ _) _ l rfl HT.out (by rw [List.length_nil]; omega) (Nat.le_refl _) ?_)
          intro v1 w3 hown1 hgrow1
          have ho3 : Old w w3 := Old.grownRow (TOwn.nil w.heap.size w) (Nat.le_refl _) (Below.refl _ _) hgrow1
          have hown1' : TOwn w.heap.size (w3.alloc (.cells #[S s] 9)) v1 l := hown1.old (Old.alloc _ _)
          have HONE := Lib.hid (Tl.one w3 s)
          have HO3 := Lib.hid (ho3.trans (Old.alloc w3 (.cells #[S s] 9)))
          have hB1 := HO3.out.size
          clear hgrow1 hown1 HT ho3
          go_wp2_with (at_builtin; refine wpList_append_texts rfl _ _ rfl w.heap.size _ l rfl hown1' _ [s] rfl HONE.out (by rw [List.length_singleton]; omega) hB1 ?_)
          intro v2 w4 hown2 hgrow2
          have ho4 : Old w w4 := Old.grownRow hown1' (Nat.le_refl _) HO3.out hgrow2
          have HO4 := Lib.hid ho4
          have HOWN2 := Lib.hid hown2
          have hB2 := ho4.size
          have HG := Lib.hid (show ∀ (a' : Addr) (c' : Nat), Tl w4 (.slice (some a') 0 c') ([] : List (List UInt8)) from fun a' c' => ⟨some a', c', rfl, (fun h => by cases h), Nat.zero_le _, fun h => absurd rfl h⟩)
          clear hown1' hgrow2 hown2 ho4 HONE HO3
          go_wp2_with (at_builtin; refine wpList_append_texts rfl _ _ rfl w.heap.size _ (l ++ [s]) rfl HOWN2.out _ ([] : List (List UInt8)) rfl (HG.out _ _) (by rw [List.length_append, List.length_singleton]; simp; omega) hB2 ?_)
          intro v3 w5 hown3 hgrow3
          have HO5 := Lib.hid (Old.grownRow HOWN2.out (Nat.le_refl _) HO4.out hgrow3)
          have HOWN5 := Lib.hid hown3.tl
          clear hown3 hgrow3
          go_wp2
          go_ret
          exact ⟨_, rfl, by rw [HIN.out, List.append_assoc]; exact HOWN5.out, HO5.out⟩
end Go.Proofs.YtabcobadglgfkaaGreatDoor
