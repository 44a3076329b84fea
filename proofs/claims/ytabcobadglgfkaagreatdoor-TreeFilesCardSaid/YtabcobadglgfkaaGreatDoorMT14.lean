/- Merged of: TreeRN. -/
import Derived.Test.YtabcobadglgfkaaGreatDoorMT13
import Derived.Test.YtabcobadglgfkaaGreatDoorMT5
/- The document's files of a digest, in the order of their paths. -/
namespace Go.Proofs.YtabcobadglgfkaaGreatDoor
open Go.RowKit

/-- Where a file belongs. -/
def SpotP (l : List M.Fi) (f : M.Fi) (k : Nat) : Prop := k ≤ l.length ∧ (∀ j (hj : j < l.length), j < k → M.bl f.1 l[j].1 = false) ∧ ∀ (hk : k < l.length), M.bl f.1 l[k].1 = true
theorem insP_ahead : ∀ (a b : List M.Fi) (f : M.Fi), (∀ g ∈ a, M.bl f.1 g.1 = false) → M.insP (a ++ b) f = a ++ M.insP b f
  | [], _, _, _ => rfl
  | g :: a, b, f, h => by
      rw [List.cons_append, M.insP, if_neg (by rw [h g (by simp)]; simp), insP_ahead a b f (fun x hx => h x (by simp [hx]))]
      rfl
theorem SpotP.eq {l : List M.Fi} {f : M.Fi} {k : Nat} (h : SpotP l f k) : M.insP l f = l.take k ++ [f] ++ l.drop k := by
  conv => lhs; rw [← List.take_append_drop k l]
  rw [insP_ahead _ _ _ (fun g hg => by
    obtain ⟨j, hj, rfl⟩ := List.getElem_of_mem hg
    rw [List.length_take] at hj
    rw [List.getElem_take]
    exact h.2.1 j (by omega) (by omega)), List.append_assoc]
  congr 1
  by_cases hk : k < l.length
  · rw [List.drop_eq_getElem_cons hk, M.insP, if_pos (h.2.2 hk)]; rfl
  · rw [List.drop_eq_nil_of_le (by omega)]; rfl
theorem leq_bl (x y : List UInt8) : (M.bl x y || x == y) = !M.bl y x := by
  by_cases e : x = y
  · subst e
    rw [M.bl_irrefl]; simp
  · cases h : M.bl x y with
    | true => rw [M.bl_asymm h]; rfl
    | false => rw [M.bl_total h e]; simpa using e
theorem sortP_snoc (fs : List M.Fi) (k : Nat) (h : k < fs.length) : M.sortP (fs.take (k + 1)) = M.insP (M.sortP (fs.take k)) fs[k] := by
  unfold M.sortP
  rw [List.take_succ_eq_append_getElem h, List.foldl_append]
  rfl
theorem sortP_length (fs : List M.Fi) : (M.sortP fs).length = fs.length := (sortP_perm fs).length_eq
theorem Vis.wOld {b B : Nat} {bv : Value} {s : M.St} {w0 w w' : World} {v : Value} (h : Vis (wFoot b) w w') (hs : WSt b B bv s w v) (ho : Old w0 w) (hc : w0.heap.size ≤ b) : Old w0 w' := by
  refine Below.trans ho (h.keep.below ho.size fun k hk hx => ?_)
  have hz := ho.size
  rcases hx with hx | hx
  · rcases hs.foot.1 hx with e | e
    · omega
    · have := row_from hs.row k e
      have := hs.lt
      omega
  · omega
/-- A call's own list of files, and what of it stands behind a place. -/
theorem Own.tailF {B : Nat} {w : World} {p : Option Addr} {n cap : Nat} {fs : List M.Fi} (h : Own B w (.slice p n cap) fs) :
    (p = none ∧ n = 0 ∧ cap = 0 ∧ fs = []) ∨ ∃ g o, p = some ⟨g, o, none⟩ ∧ n ≤ cap := by
  rcases h.2 with ⟨hv, hz⟩ | ⟨g, cap', cur, hv, _, _, r1, _⟩
  · injection hv with h1 h2 h3
    exact Or.inl ⟨h1, h2, h3, List.eq_nil_of_length_eq_zero hz⟩
  · injection hv with h1 h2 h3
    exact Or.inr ⟨g, 0, h1, by omega⟩

set_option maxHeartbeats 8000000 in
set_option maxRecDepth 100000 in
theorem rFiles_any (hp : PressSpec) (root : List UInt8) (v : Value) (l : List (List UInt8)) (hf : Fair l) (w : World) (hE : Env w) (h : Sl w.heap.size w v (l.map vstr)) :
    Calls Tryz.prog 28 #[S root, v] w (FilesPost l root w) := by
  have hst0 : WSt w.heap.size (w.heap.size + 1) v (0, []) (w.alloc (.cells #[v, .int .i64 0, .slice none 0 0] 80)) (.slice none 0 0) :=
    ⟨Blk.new w _ _, Own.nil _ _, by omega, by simp, by simp, (fun f hf => by cases hf)⟩
  have hC0 : WCx w.heap.size v l (w.alloc (.cells #[v, .int .i64 0, .slice none 0 0] 80)) := by
    refine ⟨(h.below (Old.alloc w _)).mono (by simp), fun hne g hg => ?_⟩
    obtain ⟨p, cap, hv, _, hx⟩ := h
    obtain ⟨b', off, hp, hlt, _⟩ := hx (by simpa using hne)
    have hv' : v.ownBlock = some b' := by rw [hv, hp]; rfl
    rw [hv'] at hg
    injection hg with e
    subst e
    refine ⟨by rw [World.size_alloc]; omega, fun hx => ?_⟩
    rcases hst0.foot.1 hx with e | e
    · omega
    · cases e
  have HR := Lib.hid (rfiles_any hp w.heap.size (w.heap.size + 1) v l hf (globs_env hE) 1001 [] root (0, []) _ (by omega) (by simp) (by simp) ⟨_, hst0⟩ hC0)
  have HVO := Lib.hid (fun (w2 : World) (hv : Vis (wFoot w.heap.size) (w.alloc (.cells #[v, .int .i64 0, .slice none 0 0] 80)) w2) => hv.wOld hst0 (Old.alloc w _) (Nat.le_refl _))
  obtain ⟨pb, cb, hbv⟩ := h.len
  rw [List.length_map] at hbv
  subst hbv
  unfold FilesPost M.files
  rw [show M.collect l root = ((M.goD l 1001 [] root (0, [])).1.2, (M.goD l 1001 [] root (0, [])).2) from rfl]
  clear hst0 hC0 h hE
  generalize M.goD l 1001 [] root (0, []) = X at *
  obtain ⟨⟨nd0, fs⟩, er⟩ := X
  simp only
  by_cases her : er = 0
  · subst her
    simp only [ne_eq, not_true_eq_false, if_false]
    obtain ⟨R, hR⟩ : ∃ R, (if ¬M.check (M.sortP fs) = 0 then (([] : List M.Fi), M.check (M.sortP fs)) else (M.sortP fs, 0)) = R := ⟨_, rfl⟩
    rw [hR]
    have HRR := Lib.hid hR
    clear hR
    go_enter Tryz.func28, Tryz.ntmps28
    go_upto_block 0 with ((with_reducible refine HR.out.mono ?_); rintro e w2 ⟨rfl, hI2, hv2⟩)
    obtain ⟨v3, hst3⟩ := (hI2 (by first | trivial | rfl)).1
    have HO2 := Lib.hid (HVO.out w2 hv2)
    have q2 := hst3.box.cellN 2 rfl
    have hbl := hst3.box.lt
    have HFS := Lib.hid hst3.row.fl
    have hfew : fs.length ≤ 32 := hst3.few
    have HSM := Lib.hid (show ∀ f ∈ fs, f.1.length ≤ 200000 ∧ f.2.length ≤ 1000000 from hst3.small)
    obtain ⟨pv, cv, rfl⟩ : ∃ p c, v3 = .slice p fs.length c := hst3.row.fl.len
    clear hst3 hI2 hv2 HR HVO
    go_cut [8] (fun o wx => Own w2.heap.size wx o (M.sortP fs) ∧ Old w2 wx)
    case first =>
      go_wp2
      go_loopw [8, 9] (fun o i wr => ∃ k : Nat, k ≤ fs.length ∧ i = .int .i64 k ∧ Own w2.heap.size wr o (M.sortP (fs.take k)) ∧ Old w2 wr) (fun _ i _ => fs.length - (intOf i).toNat)
      case atStart => exact ⟨0, Nat.zero_le _, rfl, Own.nil _ _, Below.refl _ _⟩
      case round =>
        obtain ⟨k, hk, rfl, hown, ho⟩ := hrel
        have HO := Lib.hid ho
        have HOWN := Lib.hid hown
        have e2 := (ho.cell (p := ⟨w.heap.size, 2, none⟩) hbl).trans q2
        clear ho hown
        by_cases hlt : k < fs.length
        · obtain ⟨be, off, rfl, hb, hc⟩ := (HFS.out.old HO.out).at (by intro h; rw [h] at hlt; exact absurd hlt (Nat.not_lt_zero _))
          obtain ⟨hc0, hc1⟩ := hc k hlt
          have HSN := Lib.hid (sortP_snoc fs k hlt)
          have hll : (M.sortP (fs.take k)).length ≤ 32 := by rw [sortP_length, List.length_take]; omega
          clear hc
          generalize fs[k] = f at *
          generalize M.sortP (fs.take k) = ls at *
          obtain ⟨fp, fd⟩ := f
          simp only at hc0 hc1
          obtain ⟨pl, cl, rfl⟩ := HOWN.out.fl.len
          go_upto_block 2 with (fail)
          go_cut [10] (fun i wx => ∃ m nd : Nat, i = .int .i64 m ∧ wx = wr.drewN nd ∧ Hid (SpotP ls (fp, fd) m))
          case first =>
            go_wp2
            go_loopw [10] (fun i wq => ∃ m nd : Nat, m ≤ ls.length ∧ i = .int .i64 m ∧ wq = wr.drewN nd ∧ Hid (∀ q (hq : q < ls.length), q < m → M.bl fp ls[q].1 = false)) (fun i _ => ls.length - (intOf i).toNat)
            case atStart => exact ⟨0, 0, Nat.zero_le _, rfl, rfl, Lib.hid (fun j _ h => absurd h (Nat.not_lt_zero _))⟩
            case round =>
              obtain ⟨m, nd, hm, rfl, hwq0, hall⟩ := hrel
              subst hwq0
              have d0 : (wr.drewN nd).cell? ⟨be, off + k * 2, none⟩ = some (S fp) := hc0
              have d2 : (wr.drewN nd).cell? ⟨w.heap.size, 2, none⟩ = some (.slice (some ⟨be, off, none⟩) fs.length cv) := e2
              by_cases hml : m < ls.length
              · obtain ⟨bL, offL, rfl, hbL, hcL⟩ := (HOWN.out.fl.drewN nd).at (by intro h; rw [h] at hml; exact absurd hml (Nat.not_lt_zero _))
                obtain ⟨g0, _⟩ := hcL m hml
                have HSP := Lib.hid (show M.bl fp ls[m].1 = true → SpotP ls (fp, fd) m from fun h => ⟨hm, hall.out, fun _ => h⟩)
                have HN := Lib.hid (show M.bl fp ls[m].1 = false → ∀ q (hq : q < ls.length), q < m + 1 → M.bl fp ls[q].1 = false from fun h q hq hqj => by
                  by_cases he : q = m
                  · subst he; exact h
                  · exact hall.out q hq (by omega))
                clear hcL hall hbL
                have hg0 : decide (m < ls.length) = true := decide_eq_true hml
                generalize ls[m].1 = y at *
                have ht := leq_bl y fp
                generalize hbl2 : M.bl fp y = r at *
                have HBL := Lib.hid hbl2
                clear hbl2
                generalize hwq : wr.drewN nd = wq at *
                have HWQ := Lib.hid hwq
                clear hwq
                cases r with
                | true =>
                  have HS2 := Lib.hid (HSP.out rfl)
                  have ht2 : (M.bl y fp || y == fp) = false := ht
                  clear HSP HN ht
                  go_wp2
                  go_quiet (fail)
                  go_wp2
                  go_meet
                  case rel => exact ⟨m, _, rfl, by rw [← HWQ.out, drewN_add], HS2⟩
                | false =>
                  have HN2 := Lib.hid (HN.out rfl)
                  have ht2 : (M.bl y fp || y == fp) = true := ht
                  clear HSP HN ht
                  go_wp2
                  go_quiet (fail)
                  go_wp2
                  go_roundw
                  case rel => exact ⟨m + 1, _, by omega, by go_num, by rw [← HWQ.out, drewN_add], HN2⟩
                  case measure => simp [intOf]; omega
              · obtain rfl : m = ls.length := by omega
                have hg0 : decide (ls.length < ls.length) = false := decide_eq_false (Nat.lt_irrefl _)
                have HS2 := Lib.hid (show SpotP ls (fp, fd) ls.length from ⟨Nat.le_refl _, hall.out, fun h => absurd h (Nat.lt_irrefl _)⟩)
                clear hall
                generalize hwq : wr.drewN nd = wq at *
                have HWQ := Lib.hid hwq
                clear hwq
                go_wp2
                go_quiet (fail)
                go_wp2
                go_meet
                case rel => exact ⟨ls.length, _, rfl, by rw [← HWQ.out, drewN_add], HS2⟩
          case rest =>
            obtain ⟨m, nd, rfl, hwx, hsp⟩ := hcut
            have HSE := Lib.hid (show M.insP ls (fp, fd) = ls.take m ++ (fp, fd) :: ls.drop m from by rw [hsp.out.eq]; simp)
            have hml := hsp.out.1
            obtain rfl := hwx
            have HOD := Lib.hid (Old.drewN wr nd)
            have HOWND := Lib.hid (HOWN.out.old HOD.out)
            have HT := Lib.hid (HOWND.out.fl.take m hml)
            have hlt2 : ((ls.take m).length) = m := by rw [List.length_take]; omega
            have hld : ((ls.drop m).length) ≤ 32 := by rw [List.length_drop]; omega
            rcases HOWN.out.tailF with ⟨rfl, hl0, rfl, hls⟩ | ⟨gl, ol, rfl, hcl⟩
            · subst hls
              obtain rfl : m = 0 := by simpa using hml
              go_wp2_with (at_builtin; refine wpList_append_files rfl _ _ rfl wr.heap.size _ [] rfl (Own.nil _ _) _ (([] : List M.Fi).take 0) rfl HT.out (by simp) (Nat.le_refl _) ?_)
              intro v1 w3 hown1 hgrow1
              have ho3 : Old wr w3 := Old.grownOwn (Own.nil wr.heap.size _) (Nat.le_refl _) HOD.out hgrow1
              have HO3 := Lib.hid ho3
              have r0 := (ho3.cell (p := ⟨be, off + k * 2, none⟩) hb).trans hc0
              have r1 := (ho3.cell (p := ⟨be, off + k * 2 + 1, none⟩) hb).trans hc1
              have r2 := (ho3.cell (p := ⟨w.heap.size, 2, none⟩) (Nat.lt_of_lt_of_le hbl HO.out.size)).trans e2
              have hown1' : Own wr.heap.size (w3.alloc (.cells #[S fp, S fd] 54)) v1 (([] : List M.Fi).take 0) := hown1.old (Old.alloc _ _)
              have HONE := Lib.hid (Fl.one w3 (fp, fd))
              have hB1 : wr.heap.size ≤ (w3.alloc (.cells #[S fp, S fd] 54)).heap.size := (ho3.trans (Old.alloc _ _)).size
              clear ho3 hgrow1 hown1 HT
              go_wp2_with (at_builtin; refine wpList_append_files rfl _ _ rfl wr.heap.size _ (([] : List M.Fi).take 0) rfl hown1' _ [(fp, fd)] rfl HONE.out (by simp) hB1 ?_)
              intro v2 w4 hown2 hgrow2
              have ho4 : Old wr w4 := Old.grownOwn hown1' (Nat.le_refl _) (HO3.out.trans (Old.alloc _ _)) hgrow2
              have HO4 := Lib.hid ho4
              have HOWN2 := Lib.hid hown2
              have hB2 := ho4.size
              clear hown1' hgrow2 hown2 ho4 HONE HO3 r0 r1 r2
              go_wp2_with (at_builtin; refine wpList_append_files rfl _ _ rfl wr.heap.size _ (([] : List M.Fi).take 0 ++ [(fp, fd)]) rfl HOWN2.out _ [] rfl (Fl.nil _) (by simp) hB2 ?_)
              intro v3 w5 hown3 hgrow3
              have HO5 := Lib.hid (HO.out.trans (Old.grownOwn HOWN2.out (Nat.le_refl _) HO4.out hgrow3))
              have HOWN5 := Lib.hid (show Own w2.heap.size w5 v3 (M.insP [] (fp, fd)) from hown3.mono HO.out.size)
              clear hown3 hgrow3
              go_wp2
              go_roundw
              case rel => exact ⟨k + 1, by omega, by go_num, by rw [HSN.out]; exact HOWN5.out, HO5.out⟩
              case measure => simp [intOf]; omega
            · have hmc : (m : Int) ≤ (cl : Int) := by omega
              have hm2 : (m : Int) ≤ (ls.length : Int) := by omega
              go_wp2_with (at_builtin; refine wpList_append_files rfl _ _ rfl wr.heap.size _ [] rfl (Own.nil _ _) _ (ls.take m) rfl HT.out (by rw [List.length_nil]; omega) (Nat.le_refl _) ?_)
              intro v1 w3 hown1 hgrow1
              have ho3 : Old wr w3 := Old.grownOwn (Own.nil wr.heap.size _) (Nat.le_refl _) HOD.out hgrow1
              have HO3 := Lib.hid ho3
              have r0 := (ho3.cell (p := ⟨be, off + k * 2, none⟩) hb).trans hc0
              have r1 := (ho3.cell (p := ⟨be, off + k * 2 + 1, none⟩) hb).trans hc1
              have r2 := (ho3.cell (p := ⟨w.heap.size, 2, none⟩) (Nat.lt_of_lt_of_le hbl HO.out.size)).trans e2
              have hown1' : Own wr.heap.size (w3.alloc (.cells #[S fp, S fd] 54)) v1 (ls.take m) := hown1.old (Old.alloc _ _)
              have HONE := Lib.hid (Fl.one w3 (fp, fd))
              have hB1 : wr.heap.size ≤ (w3.alloc (.cells #[S fp, S fd] 54)).heap.size := (ho3.trans (Old.alloc _ _)).size
              clear ho3 hgrow1 hown1 HT
              go_wp2_with (at_builtin; refine wpList_append_files rfl _ _ rfl wr.heap.size _ (ls.take m) rfl hown1' _ [(fp, fd)] rfl HONE.out (by rw [hlt2, List.length_singleton]; omega) hB1 ?_)
              intro v2 w4 hown2 hgrow2
              have ho4 : Old wr w4 := Old.grownOwn hown1' (Nat.le_refl _) (HO3.out.trans (Old.alloc _ _)) hgrow2
              have HO4 := Lib.hid ho4
              have HOWN2 := Lib.hid hown2
              have hB2 := ho4.size
              have HFL4 := Lib.hid (HOWN.out.fl.old ho4)
              clear hown1' hgrow2 hown2 ho4 HONE HO3 r0 r1 r2
              by_cases hce : cl = m
              · have HG := Lib.hid (fun c => Fl.void w4 ⟨gl, ol, none⟩ ls.length m c ls rfl (by omega))
                go_wp2_with (at_builtin; refine wpList_append_files rfl _ _ rfl wr.heap.size _ (ls.take m ++ [(fp, fd)]) rfl HOWN2.out _ (ls.drop m) rfl (HG.out _) (by rw [List.length_append, List.length_singleton]; omega) hB2 ?_)
                intro v3 w5 hown3 hgrow3
                have HO5 := Lib.hid (HO.out.trans (Old.grownOwn HOWN2.out (Nat.le_refl _) HO4.out hgrow3))
                have HOWN5 := Lib.hid (show Own w2.heap.size w5 v3 (ls.take m ++ (fp, fd) :: ls.drop m) from by have := hown3.mono HO.out.size; simpa using this)
                clear hown3 hgrow3
                go_wp2
                go_roundw
                case rel => exact ⟨k + 1, by omega, by go_num, by rw [HSN.out, HSE.out]; exact HOWN5.out, HO5.out⟩
                case measure => simp [intOf]; omega
              · have HG := Lib.hid (HFL4.out.drop m hml)
                go_wp2_with (at_builtin; refine wpList_append_files rfl _ _ rfl wr.heap.size _ (ls.take m ++ [(fp, fd)]) rfl HOWN2.out _ (ls.drop m) rfl HG.out (by rw [List.length_append, List.length_singleton]; omega) hB2 ?_)
                intro v3 w5 hown3 hgrow3
                have HO5 := Lib.hid (HO.out.trans (Old.grownOwn HOWN2.out (Nat.le_refl _) HO4.out hgrow3))
                have HOWN5 := Lib.hid (show Own w2.heap.size w5 v3 (ls.take m ++ (fp, fd) :: ls.drop m) from by have := hown3.mono HO.out.size; simpa using this)
                clear hown3 hgrow3
                go_wp2
                go_roundw
                case rel => exact ⟨k + 1, by omega, by go_num, by rw [HSN.out, HSE.out]; exact HOWN5.out, HO5.out⟩
                case measure => simp [intOf]; omega
        · obtain rfl : k = fs.length := by omega
          rw [List.take_length] at HOWN
          go_wp2
          go_meet
          case rel => exact ⟨HOWN.out, HO.out⟩
    case rest =>
      obtain ⟨hown, ho⟩ := hcut
      have HOWN := Lib.hid hown
      have HO := Lib.hid (HO2.out.trans ho)
      have hsl : (M.sortP fs).length ≤ 32 := by rw [sortP_length]; exact hfew
      have HCK := Lib.hid (fun u (h : Own w2.heap.size wc u (M.sortP fs)) => rcheck_any u (M.sortP fs) wc h.fl ⟨by omega, fun f hf => by have := HSM.out f ((sortP_perm fs).mem_iff.1 hf); exact ⟨by omega, by omega⟩⟩)
      obtain ⟨pl, cl, rfl⟩ := HOWN.out.fl.len
      have HCC := Lib.hid (HCK.out _ HOWN.out)
      clear HCK hown ho
      by_cases hck : M.check (M.sortP fs) = 0
      · have HX := Lib.hid (show R = (M.sortP fs, 0) from by rw [← HRR.out, if_neg (by simp [hck])])
        rw [hck] at HCC
        clear hck HRR
        go_wp2_with ((with_reducible refine HCC.out.mono ?_); rintro e w6 ⟨rfl, n6, rfl⟩)
        go_ret2
        rw [HX.out]
        exact ⟨_, rfl, HOWN.out.fl.old (Old.drewN wc n6), by simp only; omega, HO.out.trans (Old.drewN wc n6)⟩
      · have HX := Lib.hid (show R = ([], M.check (M.sortP fs)) from by rw [← HRR.out, if_pos hck])
        clear HRR
        generalize M.check (M.sortP fs) = ce at *
        go_wp2_with ((with_reducible refine HCC.out.mono ?_); rintro e w6 ⟨rfl, n6, rfl⟩)
        go_ret2
        rw [HX.out]
        exact ⟨_, rfl, Fl.nil _, by simp, HO.out.trans (Old.drewN wc n6)⟩
  · rw [if_pos her]
    go_enter Tryz.func28, Tryz.ntmps28
    go_wp2_with ((with_reducible refine HR.out.mono ?_); rintro e w2 ⟨rfl, hI2, hv2⟩)
    have HO2 := Lib.hid (HVO.out w2 hv2)
    go_ret2
    exact ⟨_, rfl, Fl.nil _, by simp, HO2.out⟩

/-- Not too many blobs, and not too great. -/
def someT (l : List (List UInt8)) : Bool := decide (l.length ≤ 100) && l.all fun b => decide (b.length ≤ 3000)
theorem someT_all {l : List (List UInt8)} (h : someT l = true) : l.length ≤ 100 ∧ ∀ b ∈ l, b.length ≤ 3000 := by
  unfold someT at h
  rw [Bool.and_eq_true, decide_eq_true_eq] at h
  exact ⟨h.1, fun f hf => by have := List.all_eq_true.1 h.2 f hf; simpa using this⟩
theorem someT_fair {l : List (List UInt8)} (h : someT l = true) : Fair l := by
  obtain ⟨h1, h2⟩ := someT_all h
  exact ⟨by omega, fun f hf => by have := h2 f hf; omega⟩
set_option maxHeartbeats 1000000 in
set_option maxRecDepth 100000 in
theorem someT_any (v : Value) (l : List (List UInt8)) (w : World) (h : Sl w.heap.size w v (l.map vstr)) (hl : l.length ≤ maxLen) :
    Calls Tryz.prog 26 #[v] w fun e w' => e = .returned (.bool (someT l)) ∧ w = w' := by
  unfold maxLen at hl
  have H := Lib.hid h
  obtain ⟨p, cap, hv⟩ := h.len
  rw [List.length_map] at hv
  subst hv
  clear h
  by_cases hbig : 100 < l.length
  · go_enter Tryz.func26, Tryz.ntmps26
    go_wp2
    go_ret
    exact ⟨ret_bool (by unfold someT; rw [decide_eq_false (by omega), Bool.false_and]), rfl⟩
  · go_enter Tryz.func26, Tryz.ntmps26
    go_wp2
    go_loopw [3] (fun i wr => ∃ k : Nat, k ≤ l.length ∧ i = .int .i64 k ∧ wr = w ∧ Hid (∀ j (hj : j < l.length), j < k → l[j].length ≤ 3000)) (fun i _ => l.length - (intOf i).toNat)
    case atStart => exact ⟨0, Nat.zero_le _, rfl, rfl, Lib.hid (fun j _ h => absurd h (Nat.not_lt_zero _))⟩
    case round =>
      obtain ⟨k, hk, rfl, rfl, hall⟩ := hrel
      by_cases hlt : k < l.length
      · obtain ⟨b, off, rfl, hb, hc⟩ := H.out.at (by intro h; have := congrArg List.length h; simp at this; rw [this] at hlt; simp at hlt)
        have c0 := vstr_at hc k hlt
        have HNO := Lib.hid (show 3000 < l[k].length → someT l = false from fun h => by
          cases hf : someT l with
          | false => rfl
          | true =>
            have := (someT_all hf).2 _ (List.getElem_mem hlt)
            omega)
        have HYES := Lib.hid (show l[k].length ≤ 3000 → ∀ j (hj : j < l.length), j < k + 1 → l[j].length ≤ 3000 from fun h j hj hjk => by
          by_cases he : j = k
          · subst he; exact h
          · exact hall.out j hj (by omega))
        clear hc hb hall
        generalize l[k] = x at *
        have hx := size_mk x
        by_cases h1 : 3000 < x.length
        · have HE := Lib.hid (HNO.out h1)
          clear HNO HYES
          go_wp2
          go_ret
          exact ⟨ret_bool HE.out.symm, rfl⟩
        · have HE := Lib.hid (HYES.out (by omega))
          clear HNO HYES
          go_wp2
          go_roundw
          case rel => exact ⟨k + 1, by omega, by go_num, trivial, HE⟩
          case measure => simp [intOf]; omega
      · obtain rfl : k = l.length := by omega
        go_wp2
        go_ret
        exact ⟨ret_bool (by
          unfold someT
          rw [decide_eq_true (by omega), Bool.true_and, Eq.comm, List.all_eq_true]
          intro f hf
          obtain ⟨j, hj, rfl⟩ := List.getElem_of_mem hf
          have := hall.out j hj hj
          simp [this]), rfl⟩
end Go.Proofs.YtabcobadglgfkaaGreatDoor
