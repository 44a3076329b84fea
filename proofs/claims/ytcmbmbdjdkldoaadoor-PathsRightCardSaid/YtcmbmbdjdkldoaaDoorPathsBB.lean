/- What valid sets of files are, and that the calls keep them so. Nothing of the program stands here. -/
import Derived.Test.YtcmbmbdjdkldoaaDoorPathsBA
namespace Go.Proofs.YtcmbmbdjdkldoaaDoor

abbrev Asc (fs : List M.Fi) : Prop := fs.Pairwise fun a b => M.bl a.1 b.1 = true
/-- A valid list. -/
structure Valid (fs : List M.Fi) : Prop where
  chk : ∀ f ∈ fs, M.chk1 f = 0
  few : fs.length ≤ 32
  asc : Asc fs
  kin : ∀ f ∈ fs, ∀ g ∈ fs, M.below f.1 g.1 = false

theorem asc_pair : ∀ {fs : List M.Fi}, M.asc fs = true ↔ Asc fs
  | [] => ⟨fun _ => List.Pairwise.nil, fun _ => rfl⟩
  | [a] => ⟨fun _ => List.pairwise_singleton _ _, fun _ => rfl⟩
  | a :: b :: r => by
      rw [M.asc, Bool.and_eq_true, asc_pair (fs := b :: r)]
      constructor
      · rintro ⟨h1, h2⟩
        refine List.pairwise_cons.2 ⟨fun g hg => ?_, h2⟩
        rcases List.mem_cons.1 hg with rfl | hg
        · exact h1
        · exact M.bl_trans h1 ((List.pairwise_cons.1 h2).1 g hg)
      · intro h
        exact ⟨(List.pairwise_cons.1 h).1 b (by simp), (List.pairwise_cons.1 h).2⟩
theorem valid_iff {fs : List M.Fi} : M.check fs = 0 ↔ Valid fs := by
  unfold M.check
  constructor
  · intro h
    by_cases h1 : M.firstErr fs = 0
    · rw [if_neg (by rw [h1]; simp)] at h
      by_cases h2 : fs.length > 32
      · rw [if_pos h2] at h; cases h
      · rw [if_neg h2] at h
        split at h
        · rename_i h3
          refine ⟨chk_of_first.1 h1, by omega, asc_pair.1 h3.1, fun f hf g hg => ?_⟩
          have := List.any_eq_false.1 h3.2 f hf
          cases hb : M.below f.1 g.1 with
          | false => rfl
          | true => exact absurd (show M.kin fs f.1 = true from List.any_eq_true.2 ⟨g, hg, by rw [hb]; rfl⟩) this
        · cases h
    · rw [if_pos h1] at h; exact absurd h h1
  · rintro ⟨h1, h2, h3, h4⟩
    have h1' := chk_of_first.2 h1
    rw [if_neg (by rw [h1']; simp), if_neg (by omega), if_pos]
    refine ⟨asc_pair.2 h3, List.any_eq_false.2 fun f hf hk => ?_⟩
    obtain ⟨g, hg, hb⟩ := List.any_eq_true.1 hk
    rw [h4 f hf g hg, h4 g hg f hf] at hb
    cases hb
theorem Valid.alls {fs : List M.Fi} (h : Valid fs) : Alls fs := alls_of_chk h.chk (by have := h.few; omega)
theorem Valid.filter {fs : List M.Fi} (h : Valid fs) (p : M.Fi → Bool) : Valid (fs.filter p) :=
  ⟨fun f hf => h.chk f (List.mem_filter.1 hf).1, Nat.le_trans (List.length_filter_le _ _) h.few, h.asc.filter p, fun f hf g hg => h.kin f (List.mem_filter.1 hf).1 g (List.mem_filter.1 hg).1⟩
theorem Valid.without {fs : List M.Fi} (h : Valid fs) (s : List UInt8) : Valid (M.without fs s) := h.filter _

theorem path_ok {s : List UInt8} : M.path s = 0 ↔ s.length ≤ 48 ∧ M.scan [] s = true := by
  unfold M.path
  split
  · rename_i h; exact ⟨fun _ => h, fun _ => rfl⟩
  · rename_i h; exact ⟨fun e => (by cases e), fun e => absurd e h⟩
theorem path_not {s : List UInt8} (h : M.path s ≠ 0) : M.path s = 13 := by
  unfold M.path at h ⊢
  split
  · rename_i h2; rw [if_pos h2] at h; exact absurd rfl h
  · rfl
theorem chk_iff {f : M.Fi} : M.chk1 f = 0 ↔ M.path f.1 = 0 ∧ f.2.length ≤ 2048 :=
  ⟨fun h => ⟨(small_of_chk h).2.2, (small_of_chk h).2.1⟩, fun ⟨h1, h2⟩ => by unfold M.chk1; rw [if_neg (by rw [h1]; simp), if_neg (by omega)]⟩
theorem path_ne {s : List UInt8} (h : M.path s = 0) : s ≠ [] := by
  rintro rfl
  exact absurd (path_ok.1 h).2 (by decide)
theorem tail_path {p t : List UInt8} (h : M.path p = 0) (hb : M.below p t = true) : M.path (p.drop (t.length + 1)) = 0 ∧ p = t ++ 47 :: p.drop (t.length + 1) := by
  obtain ⟨x, _, rfl⟩ := (M.below_iff _ _).1 hb
  have e : (t ++ 47 :: x).drop (t.length + 1) = x := by simp
  rw [e]
  obtain ⟨h1, h2⟩ := path_ok.1 h
  rw [M.scan_join, Bool.and_eq_true] at h2
  exact ⟨path_ok.2 ⟨by simp at h1; omega, h2.2⟩, rfl⟩
theorem Valid.under {fs : List M.Fi} (h : Valid fs) (s : List UInt8) : Valid (M.under fs s) := by
  have hF := h.filter fun f => M.below f.1 s
  have hb : ∀ f ∈ (fs.filter fun f => M.below f.1 s), M.below f.1 s = true := fun f hf => (List.mem_filter.1 hf).2
  have ht : ∀ f ∈ (fs.filter fun f => M.below f.1 s), f.1 = s ++ 47 :: (M.tail s f).1 ∧ M.path (M.tail s f).1 = 0 := fun f hf => by
    have := tail_path (chk_iff.1 (hF.chk f hf)).1 (hb f hf)
    exact ⟨this.2, this.1⟩
  unfold M.under
  generalize (fs.filter fun f => M.below f.1 s) = F at *
  refine ⟨fun g hg => ?_, by rw [List.length_map]; exact hF.few, ?_, fun g hg g' hg' => ?_⟩
  · obtain ⟨f, hf, rfl⟩ := List.mem_map.1 hg
    exact chk_iff.2 ⟨(ht f hf).2, (chk_iff.1 (hF.chk f hf)).2⟩
  · refine List.pairwise_map.2 (hF.asc.imp_of_mem fun {a b} ha hb hab => ?_)
    rw [(ht a ha).1, (ht b hb).1, M.bl_append, M.bl_cons] at hab
    simpa using hab
  · obtain ⟨f, hf, rfl⟩ := List.mem_map.1 hg
    obtain ⟨f', hf', rfl⟩ := List.mem_map.1 hg'
    have := hF.kin f hf f' hf'
    rwa [(ht f hf).1, (ht f' hf').1, M.below_under] at this
theorem into_no {fs : List M.Fi} {s : List UInt8} (h : (M.into fs s).2 ≠ 0) : M.into fs s = ([], 13) := by
  unfold M.into at h ⊢
  split
  · rfl
  · rename_i h1
    rw [if_neg h1] at h
    split
    · rename_i h2; rw [if_pos h2] at h; exact absurd rfl h
    · rfl
theorem into_yes {fs : List M.Fi} {s : List UInt8} (h : (M.into fs s).2 = 0) : (M.into fs s).1 = fs.map (M.head s) ∧ ∀ f ∈ fs, M.path (M.head s f).1 = 0 := by
  unfold M.into at h ⊢
  split
  · rename_i h1; rw [if_pos h1] at h; cases h
  · rename_i h1
    rw [if_neg h1] at h
    split
    · rename_i h2
      exact ⟨rfl, fun f hf => by have := List.all_eq_true.1 h2 f hf; simpa using this⟩
    · rename_i h2; rw [if_neg h2] at h; cases h
theorem Valid.into {fs : List M.Fi} {s : List UInt8} (h : Valid fs) (he : (M.into fs s).2 = 0) : Valid (M.into fs s).1 := by
  obtain ⟨e, hp⟩ := into_yes he
  rw [e]
  refine ⟨fun g hg => ?_, by rw [List.length_map]; exact h.few, ?_, fun g hg g' hg' => ?_⟩
  · obtain ⟨f, hf, rfl⟩ := List.mem_map.1 hg
    exact chk_iff.2 ⟨hp f hf, (chk_iff.1 (h.chk f hf)).2⟩
  · refine List.pairwise_map.2 (h.asc.imp fun {a b} hab => ?_)
    show M.bl (s ++ 47 :: a.1) (s ++ 47 :: b.1) = true
    rw [M.bl_append, M.bl_cons, hab]
    simp
  · obtain ⟨f, hf, rfl⟩ := List.mem_map.1 hg
    obtain ⟨f', hf', rfl⟩ := List.mem_map.1 hg'
    show M.below (s ++ 47 :: f.1) (s ++ 47 :: f'.1) = false
    rw [M.below_under]
    exact h.kin f hf f' hf'
theorem under_into {fs : List M.Fi} {s : List UInt8} (h : Valid fs) (he : (M.into fs s).2 = 0) : M.under (M.into fs s).1 s = fs := by
  obtain ⟨e, _⟩ := into_yes he
  rw [e]
  unfold M.under
  have h1 : (fs.map (M.head s)).filter (fun f => M.below f.1 s) = fs.map (M.head s) := List.filter_eq_self.2 fun g hg => by
    obtain ⟨f, hf, rfl⟩ := List.mem_map.1 hg
    exact (M.below_iff _ _).2 ⟨f.1, path_ne (chk_iff.1 (h.chk f hf)).1, rfl⟩
  rw [h1, List.map_map]
  have h2 : (M.tail s ∘ M.head s) = id := by
    funext f
    show ((s ++ 47 :: f.1).drop (s.length + 1), f.2) = f
    have : (s ++ 47 :: f.1).drop (s.length + 1) = f.1 := by simp
    rw [this]
  rw [h2, List.map_id]

theorem get_asc {fs : List M.Fi} (h : Asc fs) {f : M.Fi} (hf : f ∈ fs) : M.get fs f.1 = (f.2, true) := by
  induction fs with
  | nil => cases hf
  | cons g r ih =>
    obtain ⟨h1, h2⟩ := List.pairwise_cons.1 h
    unfold M.get
    rcases List.mem_cons.1 hf with rfl | hf
    · rw [List.find?_cons_of_pos (by simp)]
    · have hne := M.bl_ne (h1 f hf)
      rw [List.find?_cons_of_neg (by simpa using hne)]
      exact ih h2 hf
theorem repl_paths : ∀ (fs : List M.Fi) (f : M.Fi), (M.repl fs f).map (·.1) = fs.map (·.1)
  | [], _ => rfl
  | g :: r, f => by
      rw [M.repl]
      by_cases h : g.1 = f.1
      · rw [if_pos (by simpa using h), List.map_cons, List.map_cons, h]
      · rw [if_neg (by simpa using h), List.map_cons, List.map_cons, repl_paths r f]
theorem repl_has : ∀ {fs : List M.Fi} {f : M.Fi}, M.has fs f.1 = true → f ∈ M.repl fs f
  | [], _, h => by cases h
  | g :: r, f, h => by
      rw [M.repl]
      by_cases hg : g.1 = f.1
      · rw [if_pos (by simpa using hg)]; simp
      · rw [if_neg (by simpa using hg)]
        refine List.mem_cons_of_mem _ (repl_has ?_)
        unfold M.has at h ⊢
        rw [List.any_cons, Bool.or_eq_true] at h
        rcases h with h | h
        · exact absurd (by simpa using h) hg
        · exact h
theorem repl_keeps : ∀ {fs : List M.Fi} {f g : M.Fi}, g ∈ fs → g.1 ≠ f.1 → g ∈ M.repl fs f
  | x :: r, f, g, h, hne => by
      rw [M.repl]
      by_cases hx : x.1 = f.1
      · rw [if_pos (by simpa using hx)]
        rcases List.mem_cons.1 h with rfl | h
        · exact absurd hx hne
        · exact List.mem_cons_of_mem _ h
      · rw [if_neg (by simpa using hx)]
        rcases List.mem_cons.1 h with rfl | h
        · simp
        · exact List.mem_cons_of_mem _ (repl_keeps h hne)
theorem ins_has : ∀ (fs : List M.Fi) (f : M.Fi), f ∈ M.ins fs f
  | [], _ => by simp [M.ins]
  | g :: r, f => by
      rw [M.ins]
      split
      · simp
      · exact List.mem_cons_of_mem _ (ins_has r f)
theorem ins_keeps : ∀ {fs : List M.Fi} {f g : M.Fi}, g ∈ fs → g ∈ M.ins fs f
  | x :: r, f, g, h => by
      rw [M.ins]
      split
      · exact List.mem_cons_of_mem _ h
      · rcases List.mem_cons.1 h with rfl | h
        · simp
        · exact List.mem_cons_of_mem _ (ins_keeps h)
theorem ins_asc : ∀ {fs : List M.Fi} {f : M.Fi}, Asc fs → (∀ g ∈ fs, g.1 ≠ f.1) → Asc (M.ins fs f)
  | [], f, _, _ => List.pairwise_singleton _ _
  | x :: r, f, h, hne => by
      obtain ⟨h1, h2⟩ := List.pairwise_cons.1 h
      rw [M.ins]
      split
      · rename_i hb
        refine List.pairwise_cons.2 ⟨fun g hg => ?_, h⟩
        rcases List.mem_cons.1 hg with rfl | hg
        · exact hb
        · exact M.bl_trans hb (h1 g hg)
      · rename_i hb
        refine List.pairwise_cons.2 ⟨fun g hg => ?_, ins_asc h2 (fun g hg => hne g (List.mem_cons_of_mem _ hg))⟩
        rcases ins_mem hg with hg | rfl
        · exact h1 g hg
        · exact M.bl_total (by simpa using hb) (fun e => hne x (by simp) e.symm)
theorem put_asc {fs : List M.Fi} {f : M.Fi} (h : Asc fs) : Asc (M.put fs f) := by
  unfold M.put
  by_cases hh : M.has fs f.1 = true
  · rw [if_pos hh]
    have := (List.pairwise_map (f := fun g : M.Fi => g.1) (R := fun a b => M.bl a b = true)).2 h
    rw [← repl_paths fs f] at this
    exact List.pairwise_map.1 this
  · rw [if_neg hh]
    refine ins_asc h fun g hg e => hh (List.any_eq_true.2 ⟨g, hg, by simpa using e⟩)
theorem put_has (fs : List M.Fi) (f : M.Fi) : f ∈ M.put fs f := by
  unfold M.put
  split
  · rename_i h; exact repl_has h
  · exact ins_has fs f
theorem put_keeps {fs : List M.Fi} {f g : M.Fi} (h : g ∈ fs) (hne : g.1 ≠ f.1) : g ∈ M.put fs f := by
  unfold M.put
  split
  · exact repl_keeps h hne
  · exact ins_keeps h
theorem put_from {fs : List M.Fi} {f g : M.Fi} (h : g ∈ M.put fs f) : g ∈ fs ∨ g = f := by
  unfold M.put at h
  split at h
  · exact repl_mem h
  · exact ins_mem h
theorem chk_range (f : M.Fi) : M.chk1 f = 0 ∨ M.chk1 f = 13 ∨ M.chk1 f = 15 := by
  unfold M.chk1
  split
  · simp
  · split <;> simp
theorem withF_no {fs : List M.Fi} {f : M.Fi} (h : (M.withF fs f).2 ≠ 0) : (M.withF fs f).2 = 13 ∨ (M.withF fs f).2 = 15 ∨ (M.withF fs f).2 = 16 := by
  unfold M.withF at h ⊢
  split
  · rename_i h1
    rcases chk_range f with h2 | h2 | h2
    · exact absurd h2 h1
    · exact Or.inl h2
    · exact Or.inr (Or.inl h2)
  · rename_i h1
    rw [if_neg h1] at h
    split
    · exact Or.inr (Or.inr rfl)
    · rename_i h2
      rw [if_neg h2] at h
      split
      · exact Or.inr (Or.inl rfl)
      · rename_i h3; rw [if_neg h3] at h; exact absurd rfl h
theorem withF_yes {fs : List M.Fi} {f : M.Fi} (h : (M.withF fs f).2 = 0) : (M.withF fs f).1 = M.put fs f ∧ M.chk1 f = 0 ∧ M.kin fs f.1 = false ∧ (M.put fs f).length ≤ 32 := by
  unfold M.withF at h ⊢
  by_cases h1 : M.chk1 f ≠ 0
  · rw [if_pos h1] at h; exact absurd h h1
  · rw [if_neg h1] at h ⊢
    by_cases h2 : M.kin fs f.1 = true
    · rw [if_pos h2] at h; cases h
    · rw [if_neg h2] at h ⊢
      by_cases h3 : (M.put fs f).length > 32
      · rw [if_pos h3] at h; cases h
      · rw [if_neg h3]
        exact ⟨rfl, Decidable.of_not_not h1, by simpa using h2, by omega⟩
theorem Valid.withF {fs : List M.Fi} {f : M.Fi} (h : Valid fs) (he : (M.withF fs f).2 = 0) : Valid (M.withF fs f).1 ∧ M.get (M.withF fs f).1 f.1 = (f.2, true) ∧ ∀ g ∈ fs, g.1 ≠ f.1 → M.get (M.withF fs f).1 g.1 = (g.2, true) := by
  obtain ⟨e, h1, h2, h3⟩ := withF_yes he
  rw [e]
  have ha := put_asc (f := f) h.asc
  have hk : ∀ g ∈ fs, M.below f.1 g.1 = false ∧ M.below g.1 f.1 = false := fun g hg => by
    have := List.any_eq_false.1 h2 g hg
    simpa using this
  refine ⟨⟨fun g hg => ?_, h3, ha, fun g hg g' hg' => ?_⟩, get_asc ha (put_has fs f), fun g hg hne => get_asc ha (put_keeps hg hne)⟩
  · rcases put_from hg with hg | rfl
    · exact h.chk g hg
    · exact h1
  · rcases put_from hg with h4 | rfl
    · rcases put_from hg' with h5 | rfl
      · exact h.kin g h4 g' h5
      · exact (hk g h4).2
    · rcases put_from hg' with h5 | rfl
      · exact (hk g' h5).1
      · exact M.below_self _
end Go.Proofs.YtcmbmbdjdkldoaaDoor
