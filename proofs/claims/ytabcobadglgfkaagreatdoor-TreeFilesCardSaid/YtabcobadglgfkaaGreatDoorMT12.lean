/- Merged of: TreeRL. -/
import Derived.Test.YtabcobadglgfkaaGreatDoorMT11
import Derived.Test.YtabcobadglgfkaaGreatDoorMT5
/- The document's files of a digest: the first blob of a digest, the walk through directories. -/
namespace Go.Proofs.YtabcobadglgfkaaGreatDoor
open Go.RowKit

theorem find_drop (l : List (List UInt8)) (d : List UInt8) (k : Nat) (h : k < l.length) : M.find (l.drop k) d = if M.sum l[k] = d then some l[k] else M.find (l.drop (k + 1)) d := by
  unfold M.find
  rw [List.drop_eq_getElem_cons h, List.find?_cons]
  by_cases e : M.sum l[k] = d
  · rw [if_pos e, beq_iff_eq.2 e]
  · rw [if_neg e, beq_eq_false_iff_ne.2 e]

set_option maxHeartbeats 1000000 in
set_option maxRecDepth 100000 in
theorem rfind_any (hp : PressSpec) (d : List UInt8) (v : Value) (l : List (List UInt8)) (w : World) (hf : Fair l) (h : Sl w.heap.size w v (l.map vstr)) :
    Calls Tryz.prog 97 #[S d, v] w fun e w' => e = .returned (.tuple #[S ((M.find l d).getD []), .bool (M.find l d).isSome]) ∧ Old w w' := by
  have hfl := hf.1
  have HF := Lib.hid hf
  obtain ⟨p, cap, hv⟩ := h.len
  rw [List.length_map] at hv
  subst hv
  have H := Lib.hid h
  clear h hf
  go_enter Tryz.func97, Tryz.ntmps97
  go_wp2
  go_loopw [6] (fun i wr => ∃ k : Nat, k ≤ l.length ∧ i = .int .i64 k ∧ Old w wr ∧ Hid (M.find l d = M.find (l.drop k) d)) (fun i _ => l.length - (intOf i).toNat)
  case atStart => exact ⟨0, Nat.zero_le _, rfl, Below.refl _ _, Lib.hid rfl⟩
  case round =>
    obtain ⟨k, hk, rfl, ho, hfd⟩ := hrel
    have HO := Lib.hid ho
    clear ho
    by_cases hlt : k < l.length
    · obtain ⟨b, off, rfl, hb, hc⟩ := H.out.at (by intro h; have := congrArg List.length h; simp at this; rw [this] at hlt; simp at hlt)
      have c0 : wr.cell? ⟨b, off + k, none⟩ = some (S l[k]) := (HO.out.cell (p := ⟨b, off + k, none⟩) hb).trans (vstr_at hc k hlt)
      have hst := find_drop l d k hlt
      have hsm := HF.out.2 _ (List.getElem_mem hlt)
      have HS := Lib.hid (fun w1 => rsum_any hp ⟨⟨l[k]⟩⟩ (by rw [size_mk]; omega) w1)
      clear hc
      generalize l[k] = x at *
      by_cases he : M.sum x = d
      · have HR := Lib.hid (show M.find l d = some x from by rw [hfd.out, hst, if_pos he])
        have e1 : (M.sum x == d) = true := by rw [beq_list, decide_eq_true he]
        clear hst hfd he hsm
        generalize M.sum x = y at *
        go_wp2_with ((with_reducible refine (HS.out _).mono ?_); rintro e w2 ⟨rfl, o2⟩; have c2 := (o2.cell (p := ⟨b, off + k, none⟩) (Nat.lt_of_lt_of_le hb HO.out.size)).trans c0)
        go_ret2
        rw [HR.out]
        exact ⟨rfl, HO.out.trans o2⟩
      · have HR := Lib.hid (show M.find l d = M.find (l.drop (k + 1)) d from by rw [hfd.out, hst, if_neg he])
        have e1 : (M.sum x == d) = false := by rw [beq_list, decide_eq_false he]
        clear hst hfd he hsm
        generalize M.sum x = y at *
        go_wp2_with ((with_reducible refine (HS.out _).mono ?_); rintro e w2 ⟨rfl, o2⟩)
        go_roundw
        case rel => exact ⟨k + 1, by omega, by go_num, HO.out.trans o2, HR⟩
        case measure => simp [intOf]; omega
    · obtain rfl : k = l.length := by omega
      have HR := Lib.hid (show M.find l d = none from by rw [hfd.out, List.drop_length]; rfl)
      clear hfd
      go_wp2
      go_ret2
      rw [HR.out]
      exact ⟨rfl, HO.out⟩

/-- What the walk has in memory: where it lies, and which files it has. -/
structure WSt (b B : Nat) (bv : Value) (s : M.St) (w : World) (v : Value) : Prop where
  box : Blk w b #[bv, .int .i64 (s.1 : Nat), v] 80
  row : Own B w v s.2
  lt : b < B
  le : B ≤ w.heap.size
  few : s.2.length ≤ 32
  small : ∀ f ∈ s.2, f.1.length ≤ 200000 ∧ f.2.length ≤ 1000000
def wFoot (b : Nat) (w : World) (k : Nat) : Prop := k = b ∨ ∃ v, w.cell? ⟨b, 2, none⟩ = some v ∧ v.ownBlock = some k
def wI (b B : Nat) (bv : Value) (s : M.St) (w : World) : Prop := ∃ v, WSt b B bv s w v
theorem WSt.foot {b B : Nat} {bv : Value} {s : M.St} {w : World} {v : Value} (h : WSt b B bv s w v) {k : Nat} : wFoot b w k ↔ k = b ∨ v.ownBlock = some k := by
  have hc := h.box.cellN 2 rfl
  unfold wFoot
  rw [hc]
  constructor
  · rintro (e | ⟨u, hu, e⟩)
    · exact Or.inl e
    · have hu : v = u := by injection hu
      subst hu
      exact Or.inr e
  · rintro (e | e)
    · exact Or.inl e
    · exact Or.inr ⟨v, rfl, e⟩
theorem visit_w (b B : Nat) (bv : Value) (hg : Globs b) : Visit (wFoot b) (wI b B bv) where
  stay := by
    rintro S s w w' ⟨v, h⟩ hk hd
    have hb : ¬ S b := hd _ (h.foot.2 (Or.inl rfl))
    have hr : Own B w' v s.2 := by
      refine ⟨h.row.1, ?_⟩
      rcases h.row.2 with hn | ⟨g, cap, cur, hv, hB, hbl, rest⟩
      · exact Or.inl hn
      · exact Or.inr ⟨g, cap, cur, hv, hB, (hk.block g (Array.getElem?_eq_some_iff.1 hbl).1 (hd g (h.foot.2 (Or.inr (by rw [hv]; rfl))))).trans hbl, rest⟩
    have h' : WSt b B bv s w' v := ⟨h.box.keep hk hb, hr, h.lt, Nat.le_trans h.le hk.size, h.few, h.small⟩
    exact ⟨⟨v, h'⟩, fun k hf => h.foot.2 (h'.foot.1 hf)⟩
  lt := by
    rintro s w k ⟨v, h⟩ hf
    rcases h.foot.1 hf with rfl | e
    · exact h.box.lt
    · exact row_lt h.row k e
  glob := by
    rintro s w k ⟨v, h⟩ hf
    have hk : b ≤ k := by
      rcases h.foot.1 hf with rfl | e
      · exact Nat.le_refl _
      · have := row_from h.row k e
        have := h.lt
        omega
    exact ⟨fun e => by have := hg k (Or.inl e); omega, fun e => by have := hg k (Or.inr (Or.inl e)); omega, fun e => by have := hg k (Or.inr (Or.inr (Or.inl e))); omega, fun e => by have := hg k (Or.inr (Or.inr (Or.inr e))); omega⟩

/-- The blobs, which stay. -/
structure WCx (b : Nat) (bv : Value) (l : List (List UInt8)) (w : World) : Prop where
  sl : Sl w.heap.size w bv (l.map vstr)
  sv : l ≠ [] → ∀ g, bv.ownBlock = some g → Safe (wFoot b) w g
theorem WCx.vis {b : Nat} {bv : Value} {l : List (List UInt8)} {w w' : World} (h : WCx b bv l w) (k : Vis (wFoot b) w w') : WCx b bv l w' :=
  ⟨(k.sl0 h.sl (fun hne => h.sv (by simpa using hne))).mono k.size, fun hne g hg => k.safe (h.sv hne g hg)⟩

/-- What a walk through a directory leaves. -/
def WPost (b B : Nat) (bv : Value) (x : M.St × Int) (w : World) (e : Ending) (w' : World) : Prop :=
  e = .returned (.int .i64 x.2) ∧ (x.2 = 0 → wI b B bv x.1 w' ∧ x.1.1 ≤ 1000) ∧ Vis (wFoot b) w w'

theorem WSt.bump {b B : Nat} {bv : Value} {s : M.St} {w : World} {v : Value} (h : WSt b B bv s w v) :
    WSt b B bv (s.1 + 1, s.2) (w.setCell ⟨b, 1, none⟩ (.int .i64 (((s.1 : Nat) : Int) + 1))) v ∧ Vis (wFoot b) w (w.setCell ⟨b, 1, none⟩ (.int .i64 (((s.1 : Nat) : Int) + 1))) := by
  rw [show ((s.1 : Nat) : Int) + 1 = ((s.1 + 1 : Nat) : Int) from by omega]
  have hr : v.ownBlock ≠ some b := fun e => by have := row_from h.row b e; have := h.lt; omega
  have h' : WSt b B bv (s.1 + 1, s.2) (w.setCell ⟨b, 1, none⟩ (.int .i64 ((s.1 + 1 : Nat)))) v :=
    ⟨h.box.set 1 _, row_other h.row hr 1 _, h.lt, Nat.le_trans h.le (by simp [World.setCell]), h.few, h.small⟩
  exact ⟨h', ⟨(Keep.refl _ w).setCell (p := ⟨b, 1, none⟩) (Or.inr (Or.inl (h.foot.2 (Or.inl rfl)))) _, fun k hk => Or.inl (h.foot.2 (h'.foot.1 hk))⟩⟩

/-- One file more. -/
theorem append_file {b B : Nat} {bv : Value} {s : M.St} {w w3 : World} {v : Value} (p x : List UInt8) (h : WSt b B bv s w v) (ho : Old w w3) (hp : p.length ≤ 200000) (hx : x.length ≤ 1000000) (h32 : s.2.length < 32) :
    ∃ v' w5, (Builtin.append_ #[22, 22] 22 #[v, .slice (some ⟨w3.heap.size, 0, none⟩) 1 1]).run Tryz.prog (w3.alloc (.cells #[S p, S x] 54)) = .ok v' w5 ∧
      (w5.cell? ⟨b, 2, none⟩ = some v ∧ w5.frozen? ⟨b, 2, none⟩ = false) ∧ (∃ q n c, v' = .slice q n c) ∧ wI b B bv (s.1, s.2 ++ [(p, x)]) (w5.setCell ⟨b, 2, none⟩ v') ∧ Vis (wFoot b) w (w5.setCell ⟨b, 2, none⟩ v') := by
  obtain ⟨i0, hi, hz0, hz1, hz2⟩ := info_parts infoFile
  have hoA := ho.trans (Old.alloc w3 (.cells #[S p, S x] 54))
  have hA : Own B (w3.alloc (.cells #[S p, S x] 54)) v s.2 := h.row.old hoA
  have hb := Blk.new w3 #[S p, S x] 54
  have hB3 : B ≤ (w3.alloc (.cells #[S p, S x] 54)).heap.size := Nat.le_trans h.le hoA.size
  obtain ⟨v', w5, e1, e2, e3, _, e4⟩ := run_append_own_at (P := Tryz.prog) (w3.alloc (.cells #[S p, S x] 54)) B 22 22 54 i0 _ 2 32 Tryz.underlying22 hi hz0 hz1 hz2 rfl (by decide) v s.2.length (cells s.2) hA ⟨w3.heap.size, 0, none⟩ 1 1 [S p, S x] rfl
    (by
      intro j u hj
      rw [Addr.add_lit, Nat.zero_add]
      match j, hj with
      | 0, hj => cases hj; exact hb.cellN 0 rfl
      | 1, hj => cases hj; exact hb.cellN 1 rfl)
    (by intro u hu; simp only [List.mem_cons, List.not_mem_nil, or_false] at hu; rcases hu with rfl | rfl <;> rfl) (by unfold maxLen; omega) (by omega) hB3
  have hcr : v.ownBlock ≠ some b := fun e => by have := row_from h.row b e; have := h.lt; omega
  have hbx5 := (h.box.old hoA).grown e3 hcr
  have hrow5 : Own B w5 v' (s.2 ++ [(p, x)]) := by
    show w5.ownsRow B 54 2 v' (s.2 ++ [(p, x)]).length (cells (s.2 ++ [(p, x)]))
    rw [cells_append, cells_one, List.length_append]
    exact e2
  have hcv : v'.ownBlock ≠ some b := fun e => by have := row_from hrow5 b e; have := h.lt; omega
  have hst : WSt b B bv (s.1, s.2 ++ [(p, x)]) (w5.setCell ⟨b, 2, none⟩ v') v' :=
    ⟨hbx5.set 2 _, row_other hrow5 hcv 2 _, h.lt, Nat.le_trans hB3 (Nat.le_trans e3.size (by simp [World.setCell])), by
      show (s.2 ++ [(p, x)]).length ≤ 32
      rw [List.length_append, List.length_singleton]
      omega, fun f hf => by
      rcases List.mem_append.1 hf with hf | hf
      · exact h.small f hf
      · rw [List.mem_singleton] at hf
        subst hf
        exact ⟨hp, hx⟩⟩
  refine ⟨v', w5, e1, ⟨hbx5.cellN 2 rfl, hbx5.free 2⟩, ?_, ⟨_, hst⟩, ⟨?_, fun k hk => ?_⟩⟩
  · obtain ⟨a, c, e⟩ := hrow5.fl.len
    exact ⟨_, _, _, e⟩
  · exact ((Keep.of_old hoA).grown e3 (fun k hk => Or.inr (Or.inl (h.foot.2 (Or.inr hk))))).setCell (p := ⟨b, 2, none⟩) (Or.inr (Or.inl (h.foot.2 (Or.inl rfl)))) _
  · rcases hst.foot.1 hk with e | e
    · exact Or.inl (h.foot.2 (Or.inl e))
    · rcases e4 with h4 | h4
      · exact Or.inl (h.foot.2 (Or.inr (h4 ▸ e)))
      · rw [h4] at e
        injection e with e
        have := hoA.size
        exact Or.inr (by omega)
end Go.Proofs.YtabcobadglgfkaaGreatDoor
