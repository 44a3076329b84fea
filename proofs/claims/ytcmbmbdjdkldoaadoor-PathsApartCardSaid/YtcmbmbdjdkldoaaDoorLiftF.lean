/- Files that came in, and the builder that hands on the world's shape. -/
import Derived.Test.YtcmbmbdjdkldoaaDoorLift
import Derived.Test.YtcmbmbdjdkldoaaDoorPathsA
import Derived.Deep.SlicePairs
import Derived.HandedShaped
import Derived.Lay
namespace Go.Proofs.YtcmbmbdjdkldoaaDoor
open Go.ChangeShapes Go.WideShapes Go.ChangeAt Go.RowKit

section
variable {H : Type} {enc : TypeId × Value → H}

theorem mx_of {W : World} (h : W.ShapedOpen Tryd.prog) : Mx W := Tryd.laysM146.s1_3 W h

theorem handed_shaped {os : Os} {f : FuncId} {fn : Func} {s : ChangeSpec} {X : World → Prop} (hX : ∀ w w' : World, w.heap = w'.heap → X w → X w')
    (started : os.Started) (noInit : Tryd.checked.prog.inits.idxOf? f = none) (hfn : Tryd.checked.prog.funcs[f]? = some fn)
    (witness : ∃ (w : World) (tape : Tape) (i : Input), w.os = os ∧ (w.forCall tape i).Shaped Tryd.checked.prog ∧ i.vars = [] ∧ Input.okWide Tryd.checked.prog (w.forCall tape i) .any w.heap.size f i ∧
      ((s.pre enc Tryd.checked.prog fn [] false (w.forCall tape i).memory i.args ∧ X (w.forCall tape i).memory) ∧ sizedMet enc Tryd.checked.prog fn (OpenSpec.ofChange s) false (w.forCall tape i).memory i.args) ∧ ({} : Assume).holds Tryd.checked.prog (lone (Frame.enter Tryd.checked.prog f i.args .normal) [] (w.forCall tape i)))
    (contract : ∀ (W : World) (base : Nat) (args : Array Value) (ds gs : List (DataW H)) (before : List MemPlace),
      (∀ (j : Nat) t v, fn.params[j]? = some t → args[j]? = some v → Value.okWide Tryd.checked.prog W .any base t v) →
      DataW.Whole enc Tryd.checked.prog fn.params.toList s.vars false W args.toList ds gs before → W.ShapedOpen Tryd.checked.prog → X W →
      Calls Tryd.checked.prog f args W fun e W' => ∃ v, e = .returned v ∧ s.post enc Tryd.checked.prog fn false true false false W args v W') :
    ReturnsInHanded {} Tryd.checked os f .any (fun w args => (s.pre enc Tryd.checked.prog fn [] false w args ∧ X w) ∧ sizedMet enc Tryd.checked.prog fn (OpenSpec.ofChange s) false w args) (s.post enc Tryd.checked.prog fn false true false false) := by
  refine returnsInHanded_of_calls own started noInit witness ?_
  intro w tape i _ hsh _ hok hpre _
  obtain ⟨_, _, _, fn', hfn', _, _, _, _, hval⟩ := hok
  obtain rfl : fn' = fn := Option.some.inj (hfn'.symm.trans hfn)
  obtain ⟨⟨⟨ds, gs, before, hw, _⟩, hx⟩, _⟩ := hpre
  have hw' := DataW.Whole.of_heap (w' := w.forCall tape i) (by rfl) hw
  refine (contract (w.forCall tape i) w.heap.size i.args ds gs before hval hw' hsh (hX _ _ (by rfl) hx)).mono fun e W' ⟨v, he, hp⟩ => ?_
  subst he
  exact ChangeSpec.post_blind hp

theorem file_fields : ∃ f0 f1 : Field, Tryd.prog.underlying 36 = some (.struct #[f0, f1]) ∧ f0.offset = 0 ∧ f1.offset = 1 ∧ f0.type = 9 ∧ f1.type = 9 := ⟨_, _, Tryd.underlying36, rfl, rfl, rfl, rfl⟩
theorem file_cells : Tryd.prog.cellsOf 36 = 2 := by kernel_rfl
theorem string_cells : Tryd.prog.cellsOf 9 = 1 := by kernel_rfl

/-- A list of files that came in. -/
theorem open_files {t : TypeId} {W : World} {base : Nat} {v : Value} {d : DataW H} {p : List MemPlace} (ht : Tryd.prog.underlying t = some (.slice 36)) (hval : Value.okWide Tryd.prog W .any base t v)
    (h : DataW.Trod enc Tryd.prog W 0 (fun _ => true) true t v d p) :
    ∃ fs : List M.Fi, Fl W v fs ∧ fs.length ≤ maxLen ∧ ∀ f, f ∈ fs → f.1.length ≤ maxLen ∧ f.2.length ≤ maxLen := by
  obtain ⟨fuel, hf⟩ := h
  obtain ⟨a, len, cap, rfl⟩ := okWide_slice ht hval
  obtain ⟨f0, f1, he, o0, o1, t0, t1⟩ := file_fields
  rcases Deep.open_slice_pairs ht he file_cells o0 o1 (by rw [t0]; exact string_cells) (by rw [t1]; exact string_cells) hf with ⟨hc, _⟩ | ⟨a', len', cap', m, n, V0, V1, D0, D1, P0, P1, hc, _, hlc, hmax, hm, _, hall⟩
  · have hv : (Value.slice a len cap) = .slice none 0 0 := by simpa [Value.cells] using hc
    rw [hv]
    exact ⟨[], Fl.nil _, Nat.zero_le _, fun s hs => by cases hs⟩
  · have hv : (Value.slice a len cap) = .slice (some a') len' cap' := by simpa [Value.cells] using hc
    rw [hv]
    rw [if_pos rfl] at hm

    have each : ∀ i, i < len' → ∃ q : M.Fi, W.cell? (a'.add (i * 2)) = some (S q.1) ∧ W.cell? (a'.add (i * 2 + 1)) = some (S q.2) ∧ q.1.length ≤ maxLen ∧ q.2.length ≤ maxLen := by
      intro i hi
      obtain ⟨c0, c1, r0, r1⟩ := hall i (by omega)
      rw [t0] at r0
      rw [t1] at r1
      obtain ⟨s0, e0, _, z0⟩ := DataW.trod_string Tryd.underlying9 r0
      obtain ⟨s1, e1, _, z1⟩ := DataW.trod_string Tryd.underlying9 r1
      refine ⟨(s0.data.toList, s1.data.toList), ?_, ?_, by simpa using z0, by simpa using z1⟩
      · rw [c0]; simp only [List.cons.injEq, and_true] at e0; rw [e0]
      · rw [c1]; simp only [List.cons.injEq, and_true] at e1; rw [e1]
    obtain ⟨q, hq⟩ := Deep.choose_lt each
    have hl : ((List.range len').map q).length = len' := by simp
    refine ⟨(List.range len').map q, ⟨some a', cap', by rw [hl], (fun h => by cases h), by rw [hl]; exact hlc, fun hne => ?_⟩, by rw [hl]; omega, fun f hfm => ?_⟩
    · have hpos : 0 < len' := by
        rcases Nat.eq_zero_or_pos len' with h | h
        · rw [h] at hne; exact absurd rfl hne
        · exact h
      have h0 := (hq 0 hpos).1
      have ha : a'.add (0 * 2) = a' := by simp [Addr.add]
      rw [ha] at h0
      have hsp : a'.spot = none := by
        cases hs : a'.spot with
        | none => rfl
        | some x =>
          unfold World.cell? at h0
          split at h0
          · rw [if_pos (by rw [hs]; rfl)] at h0; cases h0
          · cases h0
      obtain ⟨b, off, sp⟩ := a'
      simp only at hsp
      subst hsp
      refine ⟨b, off, rfl, World.block_lt_of_cell? _ _ h0, fun j hj => ?_⟩
      rw [hl] at hj
      obtain ⟨c0, c1, _⟩ := hq j hj
      rw [Addr.add_lit] at c0 c1
      simp only [List.getElem_map, List.getElem_range]
      exact ⟨c0, by rw [Nat.add_assoc]; exact c1⟩
    · obtain ⟨i, hi, rfl⟩ := List.mem_map.1 hfm
      exact (hq i (List.mem_range.1 hi)).2.2

/-- A file that came in. -/
theorem open_file {t : TypeId} {W : World} {base : Nat} {v : Value} {d : DataW H} {p : List MemPlace} {f0 f1 : Field} (ht : Tryd.prog.underlying t = some (.struct #[f0, f1])) (o0 : f0.offset = 0) (o1 : f1.offset = 1) (t0 : f0.type = 9) (t1 : f1.type = 9) (hc : Tryd.prog.cellsOf t = 2)
    (hval : Value.okWide Tryd.prog W .any base t v) (h : DataW.Trod enc Tryd.prog W 0 (fun _ => true) true t v d p) :
    ∃ f : M.Fi, v = fv f ∧ f.1.length ≤ maxLen ∧ f.2.length ≤ maxLen := by
  obtain ⟨fuel, hf⟩ := h
  obtain ⟨cs, rfl, hcs⟩ := okWide_struct ht hval
  obtain ⟨y0, y1, n, _, hl, r0, r1⟩ := trod_struct2 ht hf
  rw [hc] at hcs
  obtain ⟨l⟩ := cs
  match l, hcs with
  | [u0, u1], _ =>
    rw [t0, o0, string_cells] at r0
    rw [t1, o1, string_cells] at r1
    obtain ⟨s0, e0, _, z0⟩ := DataW.trod_string Tryd.underlying9 r0
    obtain ⟨s1, e1, _, z1⟩ := DataW.trod_string Tryd.underlying9 r1
    have e0' : u0 = .string s0 := by simpa [Value.cells] using e0
    have e1' : u1 = .string s1 := by simpa [Value.cells] using e1
    refine ⟨(s0.data.toList, s1.data.toList), ?_, by simpa using z0, by simpa using z1⟩
    rw [e0', e1']
end
end Go.Proofs.YtcmbmbdjdkldoaaDoor
