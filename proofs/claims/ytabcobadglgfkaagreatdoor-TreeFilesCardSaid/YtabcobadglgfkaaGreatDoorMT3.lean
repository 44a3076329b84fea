/- Merged of: TreeH TreeI TreeJM. -/
import Derived.Test.YtabcobadglgfkaaGreatDoorMT2
import Derived.Test.YtabcobadglgfkaaGreatDoorMP1
import Derived.Laws.EntriesVeiled
/- The closure that goes through directories: its walk. -/
namespace Go.Proofs.YtabcobadglgfkaaGreatDoor
open Go.RowKit

variable {Foot : World → Nat → Prop} {I : List (List M.En) → World → Prop}

theorem row_other {B sz : Nat} {w : World} {e : TypeId} {v : Value} {n : Nat} {xs : List Value} (h : w.ownsRow B e sz v n xs) {x : Nat} (hx : v.ownBlock ≠ some x) (i : Nat) (u : Value) : (w.setCell ⟨x, i, none⟩ u).ownsRow B e sz v n xs := by
  refine ⟨h.1, ?_⟩
  rcases h.2 with hn | ⟨g, cap, cur, hv, hB, hb, rest⟩
  · exact Or.inl hn
  · have hg : g ≠ x := fun e => hx (by rw [hv, e]; rfl)
    exact Or.inr ⟨g, cap, cur, hv, hB, (heap_setCell_other w ⟨x, i, none⟩ g u hg).trans hb, rest⟩
theorem tail_vis (V : Visit Foot I) {s : List (List M.En)} {a b c : World} {u v' : Value} (h : Vis Foot a b) (hI : I s b) (hg : b.grownBy c u.ownBlock) (hu : ∀ g, u.ownBlock = some g → a.heap.size ≤ g ∧ Safe Foot b g)
    (hat : v'.ownBlock = u.ownBlock ∨ v'.ownBlock = some b.heap.size) (hlt : ∀ g, v'.ownBlock = some g → g < c.heap.size) : Vis Foot a c ∧ I s c ∧ ∀ g, v'.ownBlock = some g → Safe Foot c g := by
  have h1 := h.grown V hI hg (fun g hg => ⟨(hu g hg).1, (hu g hg).2.2⟩)
  have hs := V.stay (fun k => u.ownBlock = some k) s b c hI ((Keep.refl _ b).grown hg (fun k hk => Or.inr hk)) (fun k hk e => (hu k e).2.2 hk)
  refine ⟨h1.1, h1.2, fun g hg => ⟨hlt g hg, fun hf => ?_⟩⟩
  have hf := hs.2 g hf
  rcases hat with e | e
  · exact (hu g (e ▸ hg)).2.2 hf
  · have := V.lt s b g hI hf
    rw [e] at hg
    injection hg with hg
    omega
theorem Safe.set (V : Visit Foot I) {s : List (List M.En)} {w : World} {b x : Nat} (hb : Safe Foot w b) (hI : I s w) (hx : ¬ Foot w x) (i : Nat) (v : Value) : Safe Foot (w.setCell ⟨x, i, none⟩ v) b := by
  have hs := V.stay (· = x) s w _ hI ((Keep.refl _ w).set1 i v) (fun k hk e => hx (e ▸ hk))
  exact ⟨by have h := hb.1; simpa [World.setCell] using h, fun hf => hb.2 (hs.2 b hf)⟩
theorem get_tame {fs : List M.Fi} (h : Tame fs) (n : List UInt8) : (M.get fs n).1.length ≤ 1099511627776 := by
  unfold M.get
  split
  · rename_i f hf
    exact (h.2 f (List.mem_of_find?_eq_some hf)).2
  · simp
theorem entry_file {fs : List M.Fi} {n d : List UInt8} (h : M.get fs n = (d, true)) : M.entry fs n = (n, false, M.sum d) := by unfold M.entry; rw [h]; rfl
theorem entry_dir {fs : List M.Fi} {n d : List UInt8} (h : M.get fs n = (d, false)) : M.entry fs n = (n, true, M.sum (M.bytes (M.dir (M.under fs n)))) := by unfold M.entry; rw [h]; rfl

set_option maxHeartbeats 4000000 in
set_option maxRecDepth 100000 in
theorem enter_step (V : Visit Foot I) (g : Nat) (cb : Array Value) (eg : ∀ args w, (callFunc g args).run Tryz.prog w = .ok (.enter g args) w) (N : Nat) (hv : Visits Foot I N g cb) (pe pv k : Nat)
    (ih : ∀ j, j < k → ∀ fs : List M.Fi, (∀ f ∈ fs, f.1.length < j) → ∀ (v : Value) (W : World) (s : List (List M.En)), s.length + (M.all fs).length ≤ N → I s W → Env W → Fl W v fs → Tame fs → Boxes Foot W pe pv g cb →
      Calls Tryz.prog 70 #[v, .pointer (some ⟨pe, 0, none⟩), .pointer (some ⟨pv, 0, none⟩)] W (EnterPost Foot I s fs W))
    (fs : List M.Fi) (hk : ∀ f ∈ fs, f.1.length < k) (v : Value) (W : World) (s : List (List M.En)) (hN : s.length + (M.all fs).length ≤ N) (hI : I s W) (hE : Env W) (hfl : Fl W v fs) (ht : Tame fs) (hbx : Boxes Foot W pe pv g cb) :
    Calls Tryz.prog 70 #[v, .pointer (some ⟨pe, 0, none⟩), .pointer (some ⟨pv, 0, none⟩)] W (EnterPost Foot I s fs W) := by
  have eE : ∀ args w, (callFunc 70 args).run Tryz.prog w = .ok (.enter 70 args) w := enters_of Tryz.func70 (by kernel_rfl) rfl
  obtain ⟨i0, hi, hz0, hz1, hz2⟩ := info_parts infoEntry
  have hnl := Nat.le_trans (M.names_len fs) ht.1
  have HB := Lib.hid (byName_any v fs W hE.mx hfl ht)
  have HIH := Lib.hid ih
  have HV := Lib.hid V
  have HVS := Lib.hid hv
  have HBX := Lib.hid hbx
  have HE := Lib.hid hE
  have HT := Lib.hid ht
  have HI := Lib.hid hI
  have HKF := Lib.hid hk
  have HNN := Lib.hid hN
  clear ih V hv hbx hE ht hI hk hfl hN
  go_enter Tryz.func70, Tryz.ntmps70
  go_wp2_with fail
  refine HB.out.mono ?_
  rintro e w1 ⟨n, D, hn, rfl, hG, ho1⟩
  have hn1 : n ≤ 1000000 := Nat.le_trans hn HT.out.1
  have HK := Lib.hid (keys_any (some W.heap.size) w1)
  have HS := Lib.hid (sorted_any w1.heap.size W.heap.size n D fs (w1.alloc (.cells #[.map (some W.heap.size)] 95)) (hG.old (Old.alloc _ _)) ((Blk.new w1 #[.map (some W.heap.size)] 95).cellN 0 rfl) (by simp) (by omega))
  have HG1 := Lib.hid hG
  have HO1 := Lib.hid ho1
  clear hG ho1 hn HB
  go_wp2_with (first
    | ((with_reducible refine HK.out.mono ?_); rintro e w2 ⟨rfl, rfl⟩)
    | ((with_reducible refine HS.out.mono ?_); rintro e w3 ⟨nv, rfl, hsl, hng, ho3⟩; obtain ⟨pn, cn, rfl⟩ : (∃ pn cn, nv = .slice pn (M.names fs).length cn) := (by obtain ⟨p, c, e⟩ := hsl.len; exact ⟨p, c, by rw [e, List.length_map]⟩)))
  have HO3 := Lib.hid (show Old W w3 from HO1.out.trans ((Old.alloc w1 _).trans ho3))
  have HG3 := Lib.hid (show Grp w3 W.heap.size n D fs from (HG1.out.old (Old.alloc _ _)).old ho3)
  have HSL := Lib.hid hsl
  have HSN := Lib.hid (show ∀ b, (Value.slice pn (M.names fs).length cn).ownBlock = some b → Safe Foot w3 b from fun b hb => Safe.new HV.out HI.out HO3.out (by have := (hng b hb).1; have h1 := HO1.out.size; simp at this; omega) (hng b hb).2)
  have HSG := Lib.hid (show Safe Foot w3 W.heap.size from Safe.new HV.out HI.out HO3.out (Nat.le_refl _) HG3.out.own.lt)
  have HSR := Lib.hid (show ∀ s v b, D.atKey (.string s) void = .held v → v.ownBlock = some b → Safe Foot w3 b from fun s v b hs hb => by
    obtain ⟨u, hu, ho⟩ := HG3.out.at_ s
    rw [hs] at hu
    injection hu with hu
    subst hu
    exact Safe.new HV.out HI.out HO3.out (by have := row_from ho b hb; omega) (row_lt ho b hb))
  have HI3 := Lib.hid (HV.out.old s W w3 HI.out HO3.out)
  have HBX3 := Lib.hid (HBX.out.vis (Vis.of_old HV.out HI.out HO3.out))
  have HE3 := Lib.hid (HE.out.old HO3.out)
  clear hsl hng ho3 HS HK HG1 HO1 HBX HE
  go_loopw [5, 18] (fun u i wr => ∃ j : Nat, j ≤ (M.names fs).length ∧ i = .int .i64 j ∧ EOwn w3.heap.size wr u (((M.names fs).take j).map (M.entry fs)) ∧ (∀ b, u.ownBlock = some b → Safe Foot wr b) ∧ I (s ++ seenOf fs ((M.names fs).take j)) wr ∧ Vis Foot w3 wr) (fun _ i _ => (M.names fs).length - (intOf i).toNat)
  case atStart => exact ⟨0, Nat.zero_le _, rfl, EOwn.nil _ _, (fun b hb => by cases hb), by simpa [seenOf] using HI3.out, Vis.refl _⟩
  case round =>
    obtain ⟨j, hj, rfl, hrow, hsu, hIr, hvis⟩ := hrel
    have HROW := Lib.hid hrow
    have HSU := Lib.hid hsu
    have HIR := Lib.hid hIr
    have HVIS := Lib.hid hvis
    clear hrow hsu hIr hvis
    by_cases hlt : j < (M.names fs).length
    · obtain ⟨b, off, rfl, hb, hc⟩ := (HVIS.out.sl HSL.out HSN.out).at (by intro h; have := congrArg List.length h; simp at this; rw [this] at hlt; simp at hlt)
      have hcell : wr.cell? ⟨b, off + j, none⟩ = some (S (M.names fs)[j]) := (hc j (by simpa using hlt)).trans (by simp [hlt])
      have HTK := Lib.hid (List.take_succ_eq_append_getElem hlt)
      have hmem : (M.names fs)[j] ∈ M.names fs := List.getElem_mem hlt
      have HSB := Lib.hid (seen_le hlt)
      clear hc
      generalize (M.names fs)[j] = nm at *
      have hb4 : Blk (wr.alloc (.cells #[S nm, .bool false, .string ⟨#[]⟩] 33)) wr.heap.size #[S nm, .bool false, .string ⟨#[]⟩] 33 := Blk.new wr _ _
      have ho4 : Old wr (wr.alloc (.cells #[S nm, .bool false, .string ⟨#[]⟩] 33)) := Old.alloc wr _
      have HB4 := Lib.hid hb4
      have HO4 := Lib.hid ho4
      have HG4 := Lib.hid ((HVIS.out.grp HG3.out HSG.out HSR.out).old ho4)
      have HER := Lib.hid (HVIS.out.env HV.out HI3.out HE3.out)
      obtain ⟨gv, hgv, hown⟩ := HG4.out.at_ nm
      obtain ⟨qp, qc, rfl⟩ := hown.fl.len
      have HOWN := Lib.hid hown
      have HGV := Lib.hid hgv
      have hgl := (tame_grp HT.out nm).1
      have hget0 := get_any (.slice qp (M.grp fs nm).length qc) (M.grp fs nm) nm (wr.alloc (.cells #[S nm, .bool false, .string ⟨#[]⟩] 33)) hown.fl (by unfold maxLen; omega)
      rw [M.get_grp (M.names_ne hmem)] at hget0
      have HGET := Lib.hid hget0
      have hzero := Tryz.zeroValue22
      have hnm := name_tame HT.out hmem
      have hkey : keyOf Tryz.prog 9 (.string ⟨⟨nm⟩⟩) = some (.string nm) := WideMaps.keyOf_string_mk Tryz.underlying9 (by show nm.length ≤ _; unfold maxLen; omega)
      have HLK := Lib.hid (fun (w' : World) (h : Old (wr.alloc (.cells #[S nm, .bool false, .string ⟨#[]⟩] 33)) w') => show (Instr.lookup 95 (.map (some W.heap.size)) (S nm) false).run Tryz.prog w' = .ok (.slice qp (M.grp fs nm).length qc) w' from by
        obtain ⟨x, ps, hrun, hR⟩ := (HG4.out.old h).own.lookup keyString mapFiles (hzero w') (z := .slice none 0 0) (zd := void) (zp := []) rfl hkey
        rw [HGV.out] at hR
        injection hR with hR
        injection hR with hR
        injection hR with hR
        rw [hrun, hR])
      have hrun := HLK.out (wr.alloc (.cells #[S nm, .bool false, .string ⟨#[]⟩] 33)) (Below.refl _ _)
      have hdt := get_tame HT.out nm
      have HRL := Lib.hid (fun b (h : u5.ownBlock = some b) => row_lt HROW.out b h)
      clear hown hgv hget0 hb4 ho4
      generalize hgt : M.get fs nm = gt at *
      obtain ⟨dt, is⟩ := gt
      simp only at hdt
      cases is with
      | true =>
        have HENT := Lib.hid (entry_file hgt)
        have HGT := Lib.hid hgt
        clear hgt
        have HSUM := Lib.hid (fun (w5 : World) (h : Old wr w5) => show Calls Tryz.prog 30 #[S dt] w5 fun e w' => e = .returned (S (M.sum dt)) ∧ Old w5 w' from sum_any ⟨⟨dt⟩⟩ (by show dt.length ≤ _; exact hdt) w5 (HER.out.tabs.old h))
        go_wp2_with ((with_reducible refine HGET.out.mono ?_); rintro e w5 ⟨rfl, ho5⟩)
        refine (HSUM.out _ (HO4.out.trans ho5)).mono ?_
        rintro e w6 ⟨rfl, ho6⟩
        have hb6 := (HB4.out.old ho5).old ho6
        have f6 := hb6.free 2
        have c6 := hb6.cellN 2 rfl
        have hb7 := hb6.set 2 (S (M.sum dt))
        have a0 : (w6.setCell ⟨wr.heap.size, 2, none⟩ (S (M.sum dt))).cell? ⟨wr.heap.size, 0, none⟩ = some (S nm) := hb7.cellN 0 rfl
        have a1 : (w6.setCell ⟨wr.heap.size, 2, none⟩ (S (M.sum dt))).cell? ⟨wr.heap.size, 1, none⟩ = some (.bool false) := hb7.cellN 1 rfl
        have a2 : (w6.setCell ⟨wr.heap.size, 2, none⟩ (S (M.sum dt))).cell? ⟨wr.heap.size, 2, none⟩ = some (S (M.sum dt)) := hb7.cellN 2 rfl
        have HOA := Lib.hid (show Old wr (w6.setCell ⟨wr.heap.size, 2, none⟩ (S (M.sum dt))) from ((HO4.out.trans ho5).trans ho6).setNew (p := ⟨wr.heap.size, 2, none⟩) (Nat.le_refl _) _)
        have HROWA := Lib.hid (HROW.out.old HOA.out)
        have HVISA := Lib.hid (HVIS.out.old HV.out HIR.out HOA.out)
        have HIA := Lib.hid (HV.out.old _ _ _ HIR.out HOA.out)
        have HSUA := Lib.hid (fun g hg => Safe.old HV.out (HSU.out g hg) HIR.out HOA.out)
        clear hb6 hb7 ho5 ho6
        have hownA : EOwn w3.heap.size ((w6.setCell ⟨wr.heap.size, 2, none⟩ (S (M.sum dt))).alloc (.cells #[S nm, .bool false, S (M.sum dt)] 33)) u5 (((M.names fs).take j).map (M.entry fs)) := EOwn.old (es := ((M.names fs).take j).map (M.entry fs)) HROWA.out (Old.alloc _ _)
        have hsw : (w6.setCell ⟨wr.heap.size, 2, none⟩ (S (M.sum dt))).heap.size = w6.heap.size := by simp [World.setCell]
        have HNW := Lib.hid (show ∀ (j : Nat) (u : Value), [S nm, .bool false, S (M.sum dt)][j]? = some u → ((w6.setCell ⟨wr.heap.size, 2, none⟩ (S (M.sum dt))).alloc (.cells #[S nm, .bool false, S (M.sum dt)] 33)).cell? ((⟨w6.heap.size, 0, none⟩ : Addr).add j) = some u from by have h := World.news_of_block (heap_alloc_new (w6.setCell ⟨wr.heap.size, 2, none⟩ (S (M.sum dt))) (.cells #[S nm, .bool false, S (M.sum dt)] 33)); rw [hsw] at h; exact h)
        have hel : (((M.names fs).take j).map (M.entry fs)).length = j := by rw [List.length_map, List.length_take]; omega
        have hszA := HVISA.out.size
        have hb1 : (((M.names fs).take j).map (M.entry fs)).length + 1 ≤ maxLen := by rw [hel]; unfold maxLen; omega
        have hb2 : ((((M.names fs).take j).map (M.entry fs)).length + 1) * 40 ≤ 140737488355328 := by rw [hel]; omega
        have hb3 : w3.heap.size ≤ ((w6.setCell ⟨wr.heap.size, 2, none⟩ (S (M.sum dt))).alloc (.cells #[S nm, .bool false, S (M.sum dt)] 33)).heap.size := by rw [World.size_alloc]; omega
        go_wp2_with (at_builtin; refine wpList_append_own_at _ rfl _ _ 26 rfl w3.heap.size 33 i0 _ 3 40 Tryz.underlying26 hi hz0 hz1 hz2 rfl (by decide) _ _ _ rfl hownA ⟨w6.heap.size, 0, none⟩ 1 1 [S nm, .bool false, S (M.sum dt)] rfl rfl HNW.out (by intro u hu; simp only [List.mem_cons, List.not_mem_nil, or_false] at hu; rcases hu with rfl | rfl | rfl <;> rfl) hb1 hb2 hb3 ?_)
        intro v' w8 hown8 hgrow8 _ hat8
        have HT8 := Lib.hid (tail_vis HV.out (HVISA.out.old HV.out HIA.out (Old.alloc _ _)) (HV.out.old _ _ _ HIA.out (Old.alloc _ _)) hgrow8 (fun g hg => ⟨row_from HROWA.out g hg, (Safe.old HV.out (HSUA.out g hg) HIA.out (Old.alloc _ _))⟩) (by rw [World.size_alloc, hsw]; exact hat8) (fun g hg => row_lt hown8 g hg))
        have HROW8 := Lib.hid (show EOwn w3.heap.size w8 v' (((M.names fs).take (j + 1)).map (M.entry fs)) from by
          rw [HTK.out, List.map_append, List.map_cons, List.map_nil, HENT.out]
          show w8.ownsRow w3.heap.size 33 3 v' (((M.names fs).take j).map (M.entry fs) ++ [(nm, false, (M.sum dt))]).length (ecells (((M.names fs).take j).map (M.entry fs) ++ [(nm, false, (M.sum dt))]))
          rw [ecells_append, ecells_one, List.length_append, hel, List.map_take]
          exact hown8)
        clear hown8 hgrow8 hat8 hownA
        go_wp2
        go_roundw
        case rel => exact ⟨j + 1, by omega, by go_num, HROW8.out, HT8.out.2.2, by rw [HTK.out, seen_snoc, HGT.out]; simpa using HT8.out.2.1, HT8.out.1⟩
        case measure => simp [intOf]; omega
      | false =>
        have HENT := Lib.hid (entry_dir hgt)
        have HGT := Lib.hid hgt
        clear hgt hrun
        have hrun := HLK.out (wr.alloc (.cells #[S nm, .bool false, .string ⟨#[]⟩] 33)) (Below.refl _ _)
        go_wp2_with fail
        refine HGET.out.mono ?_
        rintro e w5 ⟨rfl, ho5⟩
        have HO5 := Lib.hid (HO4.out.trans ho5)
        have hb5 := HB4.out.old ho5
        have f5 := hb5.free 1
        have c5 := hb5.cellN 1 rfl
        have HB6 := Lib.hid (show Blk ((w5.setCell ⟨wr.heap.size, 1, none⟩ (.bool true)).drew) wr.heap.size #[S nm, .bool true, .string ⟨#[]⟩] 33 from hb5.set 1 (.bool true))
        have HO6 := Lib.hid (show Old wr ((w5.setCell ⟨wr.heap.size, 1, none⟩ (.bool true)).drew) from (HO5.out.setNew (p := ⟨wr.heap.size, 1, none⟩) (Nat.le_refl _) _).trans (Old.drewN _ 1))
        have hne1 : W.heap.size ≠ wr.heap.size := by have := HG4.out.own.lt; have h1 := HO3.out.size; have h2 := HVIS.out.size; have h3 := HG3.out.own.lt; omega
        have HGW := Lib.hid (show Grp ((w5.setCell ⟨wr.heap.size, 1, none⟩ (.bool true)).drew) W.heap.size n D fs from (HVIS.out.grp HG3.out HSG.out HSR.out).old HO6.out)
        obtain ⟨gv2, hgv2, hown2⟩ := HGW.out.at_ nm
        obtain rfl : gv2 = .slice qp (M.grp fs nm).length qc := by rw [HGV.out] at hgv2; injection hgv2 with h; exact h.symm
        have hrun2 : (Instr.lookup 95 (.map (some W.heap.size)) (S nm) false).run Tryz.prog ((w5.setCell ⟨wr.heap.size, 1, none⟩ (.bool true)).drew) = .ok (.slice qp (M.grp fs nm).length qc) ((w5.setCell ⟨wr.heap.size, 1, none⟩ (.bool true)).drew) := by
          obtain ⟨x, ps, hrun, hR⟩ := HGW.out.own.lookup keyString mapFiles (hzero _) (z := .slice none 0 0) (zd := void) (zp := []) rfl hkey
          rw [HGV.out] at hR
          injection hR with hR
          injection hR with hR
          injection hR with hR
          rw [hrun, hR]
        have hun := under_any (.slice qp (M.grp fs nm).length qc) (M.grp fs nm) nm ((w5.setCell ⟨wr.heap.size, 1, none⟩ (.bool true)).drew) hown2.fl (tame_grp HT.out nm).alls (by omega)
        rw [M.under_grp (M.names_ne hmem)] at hun
        have HUN := Lib.hid hun
        have HBXR := Lib.hid (HBX3.out.vis HVIS.out)
        have hce : ((w5.setCell ⟨wr.heap.size, 1, none⟩ (.bool true)).drew).cell? ⟨pe, 0, none⟩ = some (.func (.func 70) #[] #[.pointer (some ⟨pe, 0, none⟩), .pointer (some ⟨pv, 0, none⟩)]) := (HO6.out.cell (p := ⟨pe, 0, none⟩) HBXR.out.se.1).trans HBXR.out.ce
        have hkpos : 0 < k := by
          obtain ⟨f, hf, _⟩ := M.mem_names.1 hmem
          have := HKF.out f hf
          omega
        have HREC := Lib.hid (fun (w6 : World) (u2 : Value) (h : Old wr w6) (hu : Fl w6 u2 (M.under fs nm)) => HIH.out (k - 1) (by omega) (M.under fs nm) (fun f hf => by
          obtain ⟨gg, hgg, h1, _⟩ := M.under_short hf
          have := HKF.out gg hgg
          omega) u2 w6 (s ++ seenOf fs ((M.names fs).take j)) (by rw [List.length_append]; have := HSB.out (by first | trivial | rfl); have := HNN.out; omega) (HV.out.old _ _ _ HIR.out h) (HER.out.old h) hu (tame_under HT.out nm) (HBXR.out.vis (Vis.of_old HV.out HIR.out h)))
        have hnu := neat_dir (tame_under HT.out nm)
        have HNU := Lib.hid hnu
        clear hb5 ho5 hgv2 hown2 hun hnu hne1
        go_upto_region 11 with (fail)
        refine wp_region_any (by kernel_rfl) ?_
        change wpAny _ _ _ _ _ _ _ (World.drew _)
        refine wpAny_take (i := 1) (v := ?_) rfl (by kernel_rfl) (by kernel_rfl) (by kernel_rfl) (fun _ _ _ h => h) (Or.inl ⟨by kernel_rfl, ?_⟩) ?_
        rotate_left
        · intro w'; go_simp; try with_reducible rfl
        refine wpAny_take (i := 2) (v := ?_) rfl (by kernel_rfl) (by kernel_rfl) (by kernel_rfl) (fun _ _ _ h => h) (Or.inl ⟨by kernel_rfl, ?_⟩) ?_
        rotate_left
        · intro w'; go_simp; try with_reducible rfl
        refine wpAny_take (i := 4) (v := ?_) rfl (by kernel_rfl) (by kernel_rfl) (by kernel_rfl) (fun _ _ _ h => h) (Or.inl ⟨by kernel_rfl, ?_⟩) ?_
        rotate_left
        · intro w'; go_simp; try with_reducible rfl
        refine wpAny_ready (rs := [0, 3]) (by kernel_rfl) (by simp) ?_
        refine AllReady.cons rfl (fun K hK => ?_) (AllReady.cons rfl (fun K hK => ?_) AllReady.nil)
        · skip
          go_simp
          refine hK _ _ ?_
          clear hK K
          refine wpAny_ready (rs := [3]) (by kernel_rfl) (by simp) ?_
          refine AllReady.cons rfl (fun K hK => ?_) AllReady.nil
          go_simp
          refine hK _ _ ?_
          clear hK K
          refine wpAny_ready (rs := [5]) (by kernel_rfl) (by simp) ?_
          refine AllReady.cons rfl (fun K hK => ?_) AllReady.nil
          go_simp
          go_wp2_with ((with_reducible refine HUN.out.mono ?_); rintro e w6 ⟨u2, rfl, hu2, ho6⟩)
          have hce6 := (ho6.cell (p := ⟨pe, 0, none⟩) (World.block_lt_of_cell? _ _ hce)).trans hce
          have HO66 := Lib.hid (HO6.out.trans ho6)
          have HB66 := Lib.hid (HB6.out.old ho6)
          have HEN := Lib.hid (HREC.out w6 u2 HO66.out hu2.fl)
          refine wpAny_ready (rs := [6]) (by kernel_rfl) (by simp) ?_
          refine AllReady.cons rfl (fun K hK => ?_) AllReady.nil
          go_simp
          go_wp2_with (go_at_fn 70; refine HEN.out.mono ?_; rintro e w7 ⟨ru, rfl, hel7, hsu7, hI7, hv7⟩)
          have HI6 := Lib.hid (HV.out.old _ _ _ HIR.out HO66.out)
          have hx6 : Safe Foot w6 wr.heap.size := Safe.new HV.out HIR.out HO66.out (Nat.le_refl _) HB66.out.lt
          have HB7 := Lib.hid (hv7.blk hx6 HB66.out)
          have HX7 := Lib.hid (hv7.safe hx6)
          have HER7 := Lib.hid (hv7.env HV.out HI6.out (HER.out.old HO66.out))
          have HV7 := Lib.hid ((HVIS.out.old HV.out HIR.out HO66.out).trans hv7)
          have HROW7 := Lib.hid (hv7.own (HROW.out.old HO66.out) (fun g hg => Safe.old HV.out (HSU.out g hg) HIR.out HO66.out))
          have HSU7 := Lib.hid (fun g hg => hv7.safe (Safe.old HV.out (HSU.out g hg) HIR.out HO66.out))
          have HI7 := Lib.hid hI7
          have HDG := Lib.hid (tdigest_any ru (M.dir (M.under fs nm)) w7 HER7.out.tab HER7.out.tabs hel7 (by have := HNU.out.1; unfold maxLen; omega) HNU.out.bytes)
          clear hel7 hsu7 hI7 hv7
          refine wpAny_ready (rs := [7]) (by kernel_rfl) (by simp) ?_
          refine AllReady.cons rfl (fun K hK => ?_) AllReady.nil
          go_simp
          go_wp2_with ((with_reducible refine HDG.out.mono ?_); rintro e w8 ⟨rfl, ho8⟩)
          have hb8 := HB7.out.old ho8
          have f8 := hb8.free 2
          have c8 := hb8.cellN 2 rfl
          have hb9 := hb8.set 2 (S (M.sum (M.bytes (M.dir (M.under fs nm)))))
          have a0 : (w8.setCell ⟨wr.heap.size, 2, none⟩ (S (M.sum (M.bytes (M.dir (M.under fs nm)))))).cell? ⟨wr.heap.size, 0, none⟩ = some (S nm) := hb9.cellN 0 rfl
          have a1 : (w8.setCell ⟨wr.heap.size, 2, none⟩ (S (M.sum (M.bytes (M.dir (M.under fs nm)))))).cell? ⟨wr.heap.size, 1, none⟩ = some (.bool true) := hb9.cellN 1 rfl
          have a2 : (w8.setCell ⟨wr.heap.size, 2, none⟩ (S (M.sum (M.bytes (M.dir (M.under fs nm)))))).cell? ⟨wr.heap.size, 2, none⟩ = some (S (M.sum (M.bytes (M.dir (M.under fs nm))))) := hb9.cellN 2 rfl
          have HI8 := Lib.hid (HV.out.old _ _ _ HI7.out ho8)
          have HX8 := Lib.hid (Safe.old HV.out HX7.out HI7.out ho8)
          have hset := (HV7.out.old HV.out HI7.out ho8).set HV.out HI8.out (x := wr.heap.size) HVIS.out.size HX8.out.2 2 (S (M.sum (M.bytes (M.dir (M.under fs nm)))))
          have HVISA := Lib.hid hset.1
          have HIA := Lib.hid hset.2
          have HROWA := Lib.hid (row_other (EOwn.old (es := ((M.names fs).take j).map (M.entry fs)) HROW7.out ho8) (x := wr.heap.size) (fun e => by have := HRL.out _ e; omega) 2 (S (M.sum (M.bytes (M.dir (M.under fs nm))))))
          have HSUA := Lib.hid (fun g (hg : u5.ownBlock = some g) => Safe.set HV.out (Safe.old HV.out (HSU7.out g hg) HI7.out ho8) HI8.out HX8.out.2 2 (S (M.sum (M.bytes (M.dir (M.under fs nm))))))
          clear hb8 hb9 hset ho8
          refine wpAny_take (i := 8) (v := ?_) rfl (by kernel_rfl) (by kernel_rfl) (by kernel_rfl) (fun _ _ _ h => h) (Or.inl ⟨by kernel_rfl, ?_⟩) ?_
          rotate_left
          · intro w'; go_simp; try with_reducible rfl
          refine wpAny_ready (rs := [9]) (by kernel_rfl) (by simp) ?_
          refine AllReady.cons rfl (fun K hK => ?_) AllReady.nil
          go_simp
          skip
          refine hK _ _ ?_
          clear hK K
          refine wpAny_done (by kernel_rfl) ?_ _
          go_simp
          have hownA : EOwn w3.heap.size ((w8.setCell ⟨wr.heap.size, 2, none⟩ (S (M.sum (M.bytes (M.dir (M.under fs nm)))))).alloc (.cells #[S nm, .bool true, S (M.sum (M.bytes (M.dir (M.under fs nm))))] 33)) u5 (((M.names fs).take j).map (M.entry fs)) := EOwn.old (es := ((M.names fs).take j).map (M.entry fs)) HROWA.out (Old.alloc _ _)
          have hsw : (w8.setCell ⟨wr.heap.size, 2, none⟩ (S (M.sum (M.bytes (M.dir (M.under fs nm)))))).heap.size = w8.heap.size := by simp [World.setCell]
          have HNW := Lib.hid (show ∀ (j : Nat) (u : Value), [S nm, .bool true, S (M.sum (M.bytes (M.dir (M.under fs nm))))][j]? = some u → ((w8.setCell ⟨wr.heap.size, 2, none⟩ (S (M.sum (M.bytes (M.dir (M.under fs nm)))))).alloc (.cells #[S nm, .bool true, S (M.sum (M.bytes (M.dir (M.under fs nm))))] 33)).cell? ((⟨w8.heap.size, 0, none⟩ : Addr).add j) = some u from by have h := World.news_of_block (heap_alloc_new (w8.setCell ⟨wr.heap.size, 2, none⟩ (S (M.sum (M.bytes (M.dir (M.under fs nm)))))) (.cells #[S nm, .bool true, S (M.sum (M.bytes (M.dir (M.under fs nm))))] 33)); rw [hsw] at h; exact h)
          have hel : (((M.names fs).take j).map (M.entry fs)).length = j := by rw [List.length_map, List.length_take]; omega
          have hszA := HVISA.out.size
          have hb1 : (((M.names fs).take j).map (M.entry fs)).length + 1 ≤ maxLen := by rw [hel]; unfold maxLen; omega
          have hb2 : ((((M.names fs).take j).map (M.entry fs)).length + 1) * 40 ≤ 140737488355328 := by rw [hel]; omega
          have hb3 : w3.heap.size ≤ ((w8.setCell ⟨wr.heap.size, 2, none⟩ (S (M.sum (M.bytes (M.dir (M.under fs nm)))))).alloc (.cells #[S nm, .bool true, S (M.sum (M.bytes (M.dir (M.under fs nm))))] 33)).heap.size := by rw [World.size_alloc]; omega
          go_wp2_with (at_builtin; refine wpList_append_own_at _ rfl _ _ 26 rfl w3.heap.size 33 i0 _ 3 40 Tryz.underlying26 hi hz0 hz1 hz2 rfl (by decide) _ _ _ rfl hownA ⟨w8.heap.size, 0, none⟩ 1 1 [S nm, .bool true, S (M.sum (M.bytes (M.dir (M.under fs nm))))] rfl rfl HNW.out (by intro u hu; simp only [List.mem_cons, List.not_mem_nil, or_false] at hu; rcases hu with rfl | rfl | rfl <;> rfl) hb1 hb2 hb3 ?_)
          intro v' wA hown8 hgrow8 _ hat8
          have HT8 := Lib.hid (tail_vis HV.out (HVISA.out.old HV.out HIA.out (Old.alloc _ _)) (HV.out.old _ _ _ HIA.out (Old.alloc _ _)) hgrow8 (fun g hg => ⟨row_from HROWA.out g hg, (Safe.old HV.out (HSUA.out g hg) HIA.out (Old.alloc _ _))⟩) (by rw [World.size_alloc, hsw]; exact hat8) (fun g hg => row_lt hown8 g hg))
          have HROW8 := Lib.hid (show EOwn w3.heap.size wA v' (((M.names fs).take (j + 1)).map (M.entry fs)) from by
            rw [HTK.out, List.map_append, List.map_cons, List.map_nil, HENT.out]
            show wA.ownsRow w3.heap.size 33 3 v' (((M.names fs).take j).map (M.entry fs) ++ [(nm, true, (M.sum (M.bytes (M.dir (M.under fs nm)))))]).length (ecells (((M.names fs).take j).map (M.entry fs) ++ [(nm, true, (M.sum (M.bytes (M.dir (M.under fs nm)))))]))
            rw [ecells_append, ecells_one, List.length_append, hel, List.map_take]
            exact hown8)
          clear hown8 hgrow8 hat8 hownA
          go_wp2
          go_roundw
          case rel => exact ⟨j + 1, by omega, by go_num, HROW8.out, HT8.out.2.2, by rw [HTK.out, seen_snoc, HGT.out]; simpa using HT8.out.2.1, HT8.out.1⟩
          case measure => simp [intOf]; omega
        · skip
          go_simp
          refine hK _ _ ?_
          clear hK K
          refine wpAny_ready (rs := [0, 5]) (by kernel_rfl) (by simp) ?_
          refine AllReady.cons rfl (fun K hK => ?_) (AllReady.cons rfl (fun K hK => ?_) AllReady.nil)
          · skip
            go_simp
            refine hK _ _ ?_
            clear hK K
            refine wpAny_ready (rs := [5]) (by kernel_rfl) (by simp) ?_
            refine AllReady.cons rfl (fun K hK => ?_) AllReady.nil
            go_simp
            go_wp2_with ((with_reducible refine HUN.out.mono ?_); rintro e w6 ⟨u2, rfl, hu2, ho6⟩)
            have hce6 := (ho6.cell (p := ⟨pe, 0, none⟩) (World.block_lt_of_cell? _ _ hce)).trans hce
            have HO66 := Lib.hid (HO6.out.trans ho6)
            have HB66 := Lib.hid (HB6.out.old ho6)
            have HEN := Lib.hid (HREC.out w6 u2 HO66.out hu2.fl)
            refine wpAny_ready (rs := [6]) (by kernel_rfl) (by simp) ?_
            refine AllReady.cons rfl (fun K hK => ?_) AllReady.nil
            go_simp
            go_wp2_with (go_at_fn 70; refine HEN.out.mono ?_; rintro e w7 ⟨ru, rfl, hel7, hsu7, hI7, hv7⟩)
            have HI6 := Lib.hid (HV.out.old _ _ _ HIR.out HO66.out)
            have hx6 : Safe Foot w6 wr.heap.size := Safe.new HV.out HIR.out HO66.out (Nat.le_refl _) HB66.out.lt
            have HB7 := Lib.hid (hv7.blk hx6 HB66.out)
            have HX7 := Lib.hid (hv7.safe hx6)
            have HER7 := Lib.hid (hv7.env HV.out HI6.out (HER.out.old HO66.out))
            have HV7 := Lib.hid ((HVIS.out.old HV.out HIR.out HO66.out).trans hv7)
            have HROW7 := Lib.hid (hv7.own (HROW.out.old HO66.out) (fun g hg => Safe.old HV.out (HSU.out g hg) HIR.out HO66.out))
            have HSU7 := Lib.hid (fun g hg => hv7.safe (Safe.old HV.out (HSU.out g hg) HIR.out HO66.out))
            have HI7 := Lib.hid hI7
            have HDG := Lib.hid (tdigest_any ru (M.dir (M.under fs nm)) w7 HER7.out.tab HER7.out.tabs hel7 (by have := HNU.out.1; unfold maxLen; omega) HNU.out.bytes)
            clear hel7 hsu7 hI7 hv7
            refine wpAny_ready (rs := [7]) (by kernel_rfl) (by simp) ?_
            refine AllReady.cons rfl (fun K hK => ?_) AllReady.nil
            go_simp
            go_wp2_with ((with_reducible refine HDG.out.mono ?_); rintro e w8 ⟨rfl, ho8⟩)
            have hb8 := HB7.out.old ho8
            have f8 := hb8.free 2
            have c8 := hb8.cellN 2 rfl
            have hb9 := hb8.set 2 (S (M.sum (M.bytes (M.dir (M.under fs nm)))))
            have a0 : (w8.setCell ⟨wr.heap.size, 2, none⟩ (S (M.sum (M.bytes (M.dir (M.under fs nm)))))).cell? ⟨wr.heap.size, 0, none⟩ = some (S nm) := hb9.cellN 0 rfl
            have a1 : (w8.setCell ⟨wr.heap.size, 2, none⟩ (S (M.sum (M.bytes (M.dir (M.under fs nm)))))).cell? ⟨wr.heap.size, 1, none⟩ = some (.bool true) := hb9.cellN 1 rfl
            have a2 : (w8.setCell ⟨wr.heap.size, 2, none⟩ (S (M.sum (M.bytes (M.dir (M.under fs nm)))))).cell? ⟨wr.heap.size, 2, none⟩ = some (S (M.sum (M.bytes (M.dir (M.under fs nm))))) := hb9.cellN 2 rfl
            have HI8 := Lib.hid (HV.out.old _ _ _ HI7.out ho8)
            have HX8 := Lib.hid (Safe.old HV.out HX7.out HI7.out ho8)
            have hset := (HV7.out.old HV.out HI7.out ho8).set HV.out HI8.out (x := wr.heap.size) HVIS.out.size HX8.out.2 2 (S (M.sum (M.bytes (M.dir (M.under fs nm)))))
            have HVISA := Lib.hid hset.1
            have HIA := Lib.hid hset.2
            have HROWA := Lib.hid (row_other (EOwn.old (es := ((M.names fs).take j).map (M.entry fs)) HROW7.out ho8) (x := wr.heap.size) (fun e => by have := HRL.out _ e; omega) 2 (S (M.sum (M.bytes (M.dir (M.under fs nm))))))
            have HSUA := Lib.hid (fun g (hg : u5.ownBlock = some g) => Safe.set HV.out (Safe.old HV.out (HSU7.out g hg) HI7.out ho8) HI8.out HX8.out.2 2 (S (M.sum (M.bytes (M.dir (M.under fs nm))))))
            clear hb8 hb9 hset ho8
            refine wpAny_take (i := 8) (v := ?_) rfl (by kernel_rfl) (by kernel_rfl) (by kernel_rfl) (fun _ _ _ h => h) (Or.inl ⟨by kernel_rfl, ?_⟩) ?_
            rotate_left
            · intro w'; go_simp; try with_reducible rfl
            refine wpAny_ready (rs := [9]) (by kernel_rfl) (by simp) ?_
            refine AllReady.cons rfl (fun K hK => ?_) AllReady.nil
            go_simp
            skip
            refine hK _ _ ?_
            clear hK K
            refine wpAny_done (by kernel_rfl) ?_ _
            go_simp
            have hownA : EOwn w3.heap.size ((w8.setCell ⟨wr.heap.size, 2, none⟩ (S (M.sum (M.bytes (M.dir (M.under fs nm)))))).alloc (.cells #[S nm, .bool true, S (M.sum (M.bytes (M.dir (M.under fs nm))))] 33)) u5 (((M.names fs).take j).map (M.entry fs)) := EOwn.old (es := ((M.names fs).take j).map (M.entry fs)) HROWA.out (Old.alloc _ _)
            have hsw : (w8.setCell ⟨wr.heap.size, 2, none⟩ (S (M.sum (M.bytes (M.dir (M.under fs nm)))))).heap.size = w8.heap.size := by simp [World.setCell]
            have HNW := Lib.hid (show ∀ (j : Nat) (u : Value), [S nm, .bool true, S (M.sum (M.bytes (M.dir (M.under fs nm))))][j]? = some u → ((w8.setCell ⟨wr.heap.size, 2, none⟩ (S (M.sum (M.bytes (M.dir (M.under fs nm)))))).alloc (.cells #[S nm, .bool true, S (M.sum (M.bytes (M.dir (M.under fs nm))))] 33)).cell? ((⟨w8.heap.size, 0, none⟩ : Addr).add j) = some u from by have h := World.news_of_block (heap_alloc_new (w8.setCell ⟨wr.heap.size, 2, none⟩ (S (M.sum (M.bytes (M.dir (M.under fs nm)))))) (.cells #[S nm, .bool true, S (M.sum (M.bytes (M.dir (M.under fs nm))))] 33)); rw [hsw] at h; exact h)
            have hel : (((M.names fs).take j).map (M.entry fs)).length = j := by rw [List.length_map, List.length_take]; omega
            have hszA := HVISA.out.size
            have hb1 : (((M.names fs).take j).map (M.entry fs)).length + 1 ≤ maxLen := by rw [hel]; unfold maxLen; omega
            have hb2 : ((((M.names fs).take j).map (M.entry fs)).length + 1) * 40 ≤ 140737488355328 := by rw [hel]; omega
            have hb3 : w3.heap.size ≤ ((w8.setCell ⟨wr.heap.size, 2, none⟩ (S (M.sum (M.bytes (M.dir (M.under fs nm)))))).alloc (.cells #[S nm, .bool true, S (M.sum (M.bytes (M.dir (M.under fs nm))))] 33)).heap.size := by rw [World.size_alloc]; omega
            go_wp2_with (at_builtin; refine wpList_append_own_at _ rfl _ _ 26 rfl w3.heap.size 33 i0 _ 3 40 Tryz.underlying26 hi hz0 hz1 hz2 rfl (by decide) _ _ _ rfl hownA ⟨w8.heap.size, 0, none⟩ 1 1 [S nm, .bool true, S (M.sum (M.bytes (M.dir (M.under fs nm))))] rfl rfl HNW.out (by intro u hu; simp only [List.mem_cons, List.not_mem_nil, or_false] at hu; rcases hu with rfl | rfl | rfl <;> rfl) hb1 hb2 hb3 ?_)
            intro v' wA hown8 hgrow8 _ hat8
            have HT8 := Lib.hid (tail_vis HV.out (HVISA.out.old HV.out HIA.out (Old.alloc _ _)) (HV.out.old _ _ _ HIA.out (Old.alloc _ _)) hgrow8 (fun g hg => ⟨row_from HROWA.out g hg, (Safe.old HV.out (HSUA.out g hg) HIA.out (Old.alloc _ _))⟩) (by rw [World.size_alloc, hsw]; exact hat8) (fun g hg => row_lt hown8 g hg))
            have HROW8 := Lib.hid (show EOwn w3.heap.size wA v' (((M.names fs).take (j + 1)).map (M.entry fs)) from by
              rw [HTK.out, List.map_append, List.map_cons, List.map_nil, HENT.out]
              show wA.ownsRow w3.heap.size 33 3 v' (((M.names fs).take j).map (M.entry fs) ++ [(nm, true, (M.sum (M.bytes (M.dir (M.under fs nm)))))]).length (ecells (((M.names fs).take j).map (M.entry fs) ++ [(nm, true, (M.sum (M.bytes (M.dir (M.under fs nm)))))]))
              rw [ecells_append, ecells_one, List.length_append, hel, List.map_take]
              exact hown8)
            clear hown8 hgrow8 hat8 hownA
            go_wp2
            go_roundw
            case rel => exact ⟨j + 1, by omega, by go_num, HROW8.out, HT8.out.2.2, by rw [HTK.out, seen_snoc, HGT.out]; simpa using HT8.out.2.1, HT8.out.1⟩
            case measure => simp [intOf]; omega
          · skip
            go_simp
            go_wp2_with ((with_reducible refine HUN.out.mono ?_); rintro e w6 ⟨u2, rfl, hu2, ho6⟩)
            have hce6 := (ho6.cell (p := ⟨pe, 0, none⟩) (World.block_lt_of_cell? _ _ hce)).trans hce
            have HO66 := Lib.hid (HO6.out.trans ho6)
            have HB66 := Lib.hid (HB6.out.old ho6)
            have HEN := Lib.hid (HREC.out w6 u2 HO66.out hu2.fl)
            refine wpAny_ready (rs := [0]) (by kernel_rfl) (by simp) ?_
            refine AllReady.cons rfl (fun K hK => ?_) AllReady.nil
            go_simp
            refine hK _ _ ?_
            clear hK K
            refine wpAny_ready (rs := [6]) (by kernel_rfl) (by simp) ?_
            refine AllReady.cons rfl (fun K hK => ?_) AllReady.nil
            go_simp
            go_wp2_with (go_at_fn 70; refine HEN.out.mono ?_; rintro e w7 ⟨ru, rfl, hel7, hsu7, hI7, hv7⟩)
            have HI6 := Lib.hid (HV.out.old _ _ _ HIR.out HO66.out)
            have hx6 : Safe Foot w6 wr.heap.size := Safe.new HV.out HIR.out HO66.out (Nat.le_refl _) HB66.out.lt
            have HB7 := Lib.hid (hv7.blk hx6 HB66.out)
            have HX7 := Lib.hid (hv7.safe hx6)
            have HER7 := Lib.hid (hv7.env HV.out HI6.out (HER.out.old HO66.out))
            have HV7 := Lib.hid ((HVIS.out.old HV.out HIR.out HO66.out).trans hv7)
            have HROW7 := Lib.hid (hv7.own (HROW.out.old HO66.out) (fun g hg => Safe.old HV.out (HSU.out g hg) HIR.out HO66.out))
            have HSU7 := Lib.hid (fun g hg => hv7.safe (Safe.old HV.out (HSU.out g hg) HIR.out HO66.out))
            have HI7 := Lib.hid hI7
            have HDG := Lib.hid (tdigest_any ru (M.dir (M.under fs nm)) w7 HER7.out.tab HER7.out.tabs hel7 (by have := HNU.out.1; unfold maxLen; omega) HNU.out.bytes)
            clear hel7 hsu7 hI7 hv7
            refine wpAny_ready (rs := [7]) (by kernel_rfl) (by simp) ?_
            refine AllReady.cons rfl (fun K hK => ?_) AllReady.nil
            go_simp
            go_wp2_with ((with_reducible refine HDG.out.mono ?_); rintro e w8 ⟨rfl, ho8⟩)
            have hb8 := HB7.out.old ho8
            have f8 := hb8.free 2
            have c8 := hb8.cellN 2 rfl
            have hb9 := hb8.set 2 (S (M.sum (M.bytes (M.dir (M.under fs nm)))))
            have a0 : (w8.setCell ⟨wr.heap.size, 2, none⟩ (S (M.sum (M.bytes (M.dir (M.under fs nm)))))).cell? ⟨wr.heap.size, 0, none⟩ = some (S nm) := hb9.cellN 0 rfl
            have a1 : (w8.setCell ⟨wr.heap.size, 2, none⟩ (S (M.sum (M.bytes (M.dir (M.under fs nm)))))).cell? ⟨wr.heap.size, 1, none⟩ = some (.bool true) := hb9.cellN 1 rfl
            have a2 : (w8.setCell ⟨wr.heap.size, 2, none⟩ (S (M.sum (M.bytes (M.dir (M.under fs nm)))))).cell? ⟨wr.heap.size, 2, none⟩ = some (S (M.sum (M.bytes (M.dir (M.under fs nm))))) := hb9.cellN 2 rfl
            have HI8 := Lib.hid (HV.out.old _ _ _ HI7.out ho8)
            have HX8 := Lib.hid (Safe.old HV.out HX7.out HI7.out ho8)
            have hset := (HV7.out.old HV.out HI7.out ho8).set HV.out HI8.out (x := wr.heap.size) HVIS.out.size HX8.out.2 2 (S (M.sum (M.bytes (M.dir (M.under fs nm)))))
            have HVISA := Lib.hid hset.1
            have HIA := Lib.hid hset.2
            have HROWA := Lib.hid (row_other (EOwn.old (es := ((M.names fs).take j).map (M.entry fs)) HROW7.out ho8) (x := wr.heap.size) (fun e => by have := HRL.out _ e; omega) 2 (S (M.sum (M.bytes (M.dir (M.under fs nm))))))
            have HSUA := Lib.hid (fun g (hg : u5.ownBlock = some g) => Safe.set HV.out (Safe.old HV.out (HSU7.out g hg) HI7.out ho8) HI8.out HX8.out.2 2 (S (M.sum (M.bytes (M.dir (M.under fs nm))))))
            clear hb8 hb9 hset ho8
            refine wpAny_take (i := 8) (v := ?_) rfl (by kernel_rfl) (by kernel_rfl) (by kernel_rfl) (fun _ _ _ h => h) (Or.inl ⟨by kernel_rfl, ?_⟩) ?_
            rotate_left
            · intro w'; go_simp; try with_reducible rfl
            refine wpAny_ready (rs := [9]) (by kernel_rfl) (by simp) ?_
            refine AllReady.cons rfl (fun K hK => ?_) AllReady.nil
            go_simp
            skip
            refine hK _ _ ?_
            clear hK K
            refine wpAny_done (by kernel_rfl) ?_ _
            go_simp
            have hownA : EOwn w3.heap.size ((w8.setCell ⟨wr.heap.size, 2, none⟩ (S (M.sum (M.bytes (M.dir (M.under fs nm)))))).alloc (.cells #[S nm, .bool true, S (M.sum (M.bytes (M.dir (M.under fs nm))))] 33)) u5 (((M.names fs).take j).map (M.entry fs)) := EOwn.old (es := ((M.names fs).take j).map (M.entry fs)) HROWA.out (Old.alloc _ _)
            have hsw : (w8.setCell ⟨wr.heap.size, 2, none⟩ (S (M.sum (M.bytes (M.dir (M.under fs nm)))))).heap.size = w8.heap.size := by simp [World.setCell]
            have HNW := Lib.hid (show ∀ (j : Nat) (u : Value), [S nm, .bool true, S (M.sum (M.bytes (M.dir (M.under fs nm))))][j]? = some u → ((w8.setCell ⟨wr.heap.size, 2, none⟩ (S (M.sum (M.bytes (M.dir (M.under fs nm)))))).alloc (.cells #[S nm, .bool true, S (M.sum (M.bytes (M.dir (M.under fs nm))))] 33)).cell? ((⟨w8.heap.size, 0, none⟩ : Addr).add j) = some u from by have h := World.news_of_block (heap_alloc_new (w8.setCell ⟨wr.heap.size, 2, none⟩ (S (M.sum (M.bytes (M.dir (M.under fs nm)))))) (.cells #[S nm, .bool true, S (M.sum (M.bytes (M.dir (M.under fs nm))))] 33)); rw [hsw] at h; exact h)
            have hel : (((M.names fs).take j).map (M.entry fs)).length = j := by rw [List.length_map, List.length_take]; omega
            have hszA := HVISA.out.size
            have hb1 : (((M.names fs).take j).map (M.entry fs)).length + 1 ≤ maxLen := by rw [hel]; unfold maxLen; omega
            have hb2 : ((((M.names fs).take j).map (M.entry fs)).length + 1) * 40 ≤ 140737488355328 := by rw [hel]; omega
            have hb3 : w3.heap.size ≤ ((w8.setCell ⟨wr.heap.size, 2, none⟩ (S (M.sum (M.bytes (M.dir (M.under fs nm)))))).alloc (.cells #[S nm, .bool true, S (M.sum (M.bytes (M.dir (M.under fs nm))))] 33)).heap.size := by rw [World.size_alloc]; omega
            go_wp2_with (at_builtin; refine wpList_append_own_at _ rfl _ _ 26 rfl w3.heap.size 33 i0 _ 3 40 Tryz.underlying26 hi hz0 hz1 hz2 rfl (by decide) _ _ _ rfl hownA ⟨w8.heap.size, 0, none⟩ 1 1 [S nm, .bool true, S (M.sum (M.bytes (M.dir (M.under fs nm))))] rfl rfl HNW.out (by intro u hu; simp only [List.mem_cons, List.not_mem_nil, or_false] at hu; rcases hu with rfl | rfl | rfl <;> rfl) hb1 hb2 hb3 ?_)
            intro v' wA hown8 hgrow8 _ hat8
            have HT8 := Lib.hid (tail_vis HV.out (HVISA.out.old HV.out HIA.out (Old.alloc _ _)) (HV.out.old _ _ _ HIA.out (Old.alloc _ _)) hgrow8 (fun g hg => ⟨row_from HROWA.out g hg, (Safe.old HV.out (HSUA.out g hg) HIA.out (Old.alloc _ _))⟩) (by rw [World.size_alloc, hsw]; exact hat8) (fun g hg => row_lt hown8 g hg))
            have HROW8 := Lib.hid (show EOwn w3.heap.size wA v' (((M.names fs).take (j + 1)).map (M.entry fs)) from by
              rw [HTK.out, List.map_append, List.map_cons, List.map_nil, HENT.out]
              show wA.ownsRow w3.heap.size 33 3 v' (((M.names fs).take j).map (M.entry fs) ++ [(nm, true, (M.sum (M.bytes (M.dir (M.under fs nm)))))]).length (ecells (((M.names fs).take j).map (M.entry fs) ++ [(nm, true, (M.sum (M.bytes (M.dir (M.under fs nm)))))]))
              rw [ecells_append, ecells_one, List.length_append, hel, List.map_take]
              exact hown8)
            clear hown8 hgrow8 hat8 hownA
            go_wp2
            go_roundw
            case rel => exact ⟨j + 1, by omega, by go_num, HROW8.out, HT8.out.2.2, by rw [HTK.out, seen_snoc, HGT.out]; simpa using HT8.out.2.1, HT8.out.1⟩
            case measure => simp [intOf]; omega
    · obtain rfl : j = (M.names fs).length := by omega
      rw [List.take_of_length_le (Nat.le_refl _), ← M.dir_eq] at HROW
      rw [List.take_of_length_le (Nat.le_refl _)] at HIR
      have HBR := Lib.hid (HBX3.out.vis HVIS.out)
      have hcv := HBR.out.cv
      have HVC := Lib.hid (HVS.out _ u5 (M.dir fs) wr (by have := HNN.out; rw [all_seen, List.length_append, List.length_singleton] at this; rw [List.length_append]; omega) HIR.out (HVIS.out.env HV.out HI3.out HE3.out) (EOwn.el HROW.out) (neat_dir HT.out) HSU.out)
      go_wp2_with (go_at_fn g; refine HVC.out.mono ?_; rintro e w4 ⟨rfl, hI4, hv4⟩)
      go_ret
      refine ⟨_, rfl, hv4.el (EOwn.el HROW.out) HSU.out, fun b hb => hv4.safe (HSU.out b hb), ?_, ((Vis.of_old HV.out HI.out HO3.out).trans HVIS.out).trans hv4⟩
      rw [M.all_eq]
      simpa [seenOf] using hI4

/-- The closure's entries are the document's, all directories having been told. -/
theorem enter_any (V : Visit Foot I) (g : Nat) (cb : Array Value) (eg : ∀ args w, (callFunc g args).run Tryz.prog w = .ok (.enter g args) w) (N : Nat) (hv : Visits Foot I N g cb) (pe pv k : Nat) :
    ∀ fs : List M.Fi, (∀ f ∈ fs, f.1.length < k) → ∀ (v : Value) (W : World) (s : List (List M.En)), s.length + (M.all fs).length ≤ N → I s W → Env W → Fl W v fs → Tame fs → Boxes Foot W pe pv g cb →
      Calls Tryz.prog 70 #[v, .pointer (some ⟨pe, 0, none⟩), .pointer (some ⟨pv, 0, none⟩)] W (EnterPost Foot I s fs W) := by
  induction k using Nat.strongRecOn with
  | ind k ih => exact fun fs hk v W s hN hI hE hfl ht hbx => enter_step V g cb eg N hv pe pv k ih fs hk v W s hN hI hE hfl ht hbx
end Go.Proofs.YtabcobadglgfkaaGreatDoor

/- The entries of a directory, and the digest of files. -/
namespace Go.Proofs.YtabcobadglgfkaaGreatDoor
open Go.RowKit

variable {Foot : World → Nat → Prop} {I : List (List M.En) → World → Prop}

theorem enter_walk1 : ∀ args w, (callFunc 70 args).run Tryz.prog w = .ok (.enter 70 args) w := enters_of Tryz.func70 (by kernel_rfl) rfl

set_option maxHeartbeats 1000000 in
theorem walk_any (V : Visit Foot I) (g : Nat) (cb : Array Value) (eg : ∀ args w, (callFunc g args).run Tryz.prog w = .ok (.enter g args) w) (N : Nat) (hv : Visits Foot I N g cb)
    (fs : List M.Fi) (v : Value) (W : World) (s : List (List M.En)) (hN : s.length + (M.all fs).length ≤ N) (hI : I s W) (hE : Env W) (hfl : Fl W v fs) (ht : Tame fs) :
    Calls Tryz.prog 32 #[v, .func (.func g) #[] cb] W (EnterPost Foot I s fs W) := by
  have hclo : (.func (.func 70) #[] #[.pointer (some ⟨W.heap.size + 1, 0, none⟩), .pointer (some ⟨W.heap.size, 0, none⟩)] : Value) = .func (.func 70) #[] #[.pointer (some ⟨W.heap.size + 1, 0, none⟩), .pointer (some ⟨W.heap.size, 0, none⟩)] := rfl
  have ho1 : Old W (W.alloc (.cells #[.func (.func g) #[] cb] 58)) := Old.alloc _ _
  have ho2 : Old W ((W.alloc (.cells #[.func (.func g) #[] cb] 58)).alloc (.cells #[.func (.func 70) #[] #[.pointer (some ⟨W.heap.size + 1, 0, none⟩), .pointer (some ⟨W.heap.size, 0, none⟩)]] 94)) := ho1.trans (Old.alloc _ _)
  have hb1 := Blk.new W #[.func (.func g) #[] cb] 58
  have hb2 := Blk.new (W.alloc (.cells #[.func (.func g) #[] cb] 58)) #[.func (.func 70) #[] #[.pointer (some ⟨W.heap.size + 1, 0, none⟩), .pointer (some ⟨W.heap.size, 0, none⟩)]] 94
  rw [World.size_alloc] at hb2
  have hbx : Boxes Foot ((W.alloc (.cells #[.func (.func g) #[] cb] 58)).alloc (.cells #[.func (.func 70) #[] #[.pointer (some ⟨W.heap.size + 1, 0, none⟩), .pointer (some ⟨W.heap.size, 0, none⟩)]] 94)) (W.heap.size + 1) W.heap.size g cb :=
    ⟨hb2.cellN 0 rfl, (hb1.alloc _).cellN 0 rfl, Safe.new V hI ho2 (by omega) hb2.lt, Safe.new V hI ho2 (Nat.le_refl _) (hb1.alloc _).lt⟩
  have HEN := Lib.hid (enter_any V g cb eg N hv (W.heap.size + 1) W.heap.size (M.deep fs) fs M.deep_lt v _ s hN (V.old _ _ _ hI ho2) (hE.old ho2) (hfl.old ho2) ht hbx)
  have HO2 := Lib.hid (Vis.of_old V hI ho2)
  have eE := enter_walk1
  clear hbx hb1 hb2 ho1 ho2 hclo
  go_enter Tryz.func32, Tryz.ntmps32
  go_wp2_with (go_at_fn 70; refine HEN.out.mono ?_; rintro e w4 ⟨u, rfl, h1, h2, h3, h4⟩)
  go_ret
  exact ⟨_, rfl, h1, h2, h3, HO2.out.trans h4⟩

/-- A function that does nothing. -/
theorem visit_none : Visit (σ := List (List M.En)) (fun _ _ => False) (fun _ _ => True) := ⟨fun _ _ _ _ _ _ _ => ⟨trivial, fun _ h => h⟩, fun _ _ _ _ h => h.elim, fun _ _ _ _ h => h.elim⟩
theorem visits_none (N : Nat) : Visits (fun _ _ => False) (fun _ _ => True) N 33 #[] := by
  intro s v es W _ _ _ _ _ _
  show Calls Tryz.prog 33 #[v] W _
  go_enter Tryz.func33, Tryz.ntmps33
  go_wp2
  go_end0
  exact ⟨rfl, trivial, Vis.refl _⟩
theorem vis_none {w w' : World} (h : Vis (fun _ _ => False) w w') : Old w w' := h.keep.old (fun k hk hx => by rcases hx with hx | hx; exact hx; omega)

theorem enter_dir1 : ∀ args w, (callFunc 33 args).run Tryz.prog w = .ok (.enter 33 args) w := enters_of Tryz.func33 (by kernel_rfl) rfl
theorem walk_dir (fs : List M.Fi) (v : Value) (W : World) (hE : Env W) (hfl : Fl W v fs) (ht : Tame fs) :
    Calls Tryz.prog 32 #[v, .func (.func 33) #[] #[]] W fun e w' => ∃ u, e = .returned u ∧ El w' u (M.dir fs) ∧ Old W w' :=
  (walk_any visit_none 33 #[] enter_dir1 (M.all fs).length (visits_none _) fs v W [] (by simp) trivial hE hfl ht).mono fun _ _ ⟨u, he, h1, _, _, h4⟩ => ⟨u, he, h1, vis_none h4⟩

set_option maxHeartbeats 1000000 in
theorem dir_any (fs : List M.Fi) (p : List UInt8) (v : Value) (W : World) (hE : Env W) (hfl : Fl W v fs) (ht : Tame fs) (hp : p.length ≤ 1099511627776) :
    Calls Tryz.prog 14 #[v, S p] W fun e w' => ∃ u, e = .returned u ∧ El w' u (M.dirAt fs p) ∧ Old W w' := by
  unfold M.dirAt
  by_cases h0 : p = []
  · subst h0
    rw [if_pos rfl]
    have HW := Lib.hid (walk_dir fs v W hE hfl ht)
    clear hfl
    go_enter Tryz.func14, Tryz.ntmps14
    go_wp2_with ((with_reducible refine HW.out.mono ?_); rintro e w1 ⟨u, rfl, h1, h2⟩)
    go_ret
    exact ⟨_, rfl, h1, h2⟩
  · rw [if_neg h0]
    have hpe : p.isEmpty = false := by simpa using h0
    have HU := Lib.hid (under_any v fs p W hfl ht.alls hp)
    have HW := Lib.hid (fun (u : Value) (w1 : World) (ho : Old W w1) (h : Fl w1 u (M.under fs p)) => walk_dir (M.under fs p) u w1 (hE.old ho) h (tame_under ht p))
    clear hfl
    go_enter Tryz.func14, Tryz.ntmps14
    go_wp2_with (first
      | ((with_reducible refine HU.out.mono ?_); rintro e w1 ⟨u, rfl, hu, ho1⟩)
      | ((with_reducible refine (HW.out u w1 ho1 hu.fl).mono ?_); rintro e w2 ⟨u2, rfl, h1, h2⟩))
    go_ret
    exact ⟨_, rfl, h1, ho1.trans h2⟩

/-- The digest of files. -/
theorem fdigest_any (fs : List M.Fi) (v : Value) (W : World) (hE : Env W) (hfl : Fl W v fs) (ht : Tame fs) :
    Calls Tryz.prog 16 #[v] W fun e w' => e = .returned (S (M.digest' fs)) ∧ Old W w' := by
  have HD := Lib.hid (dir_any fs [] v W hE hfl ht (by simp))
  have HS := Lib.hid (fun (u : Value) (w1 : World) (ho : Old W w1) (h : El w1 u (M.dirAt fs [])) => tdigest_any u (M.dirAt fs []) w1 (hE.tab.old ho) (hE.tabs.old ho) h (by have := (neat_dir ht).1; unfold maxLen; show (M.dir fs).length ≤ _; omega) (neat_dir ht).bytes)
  go_enter Tryz.func16, Tryz.ntmps16
  go_wp2_with (first
    | ((with_reducible refine HD.out.mono ?_); rintro e w1 ⟨u, rfl, hu, ho1⟩)
    | ((with_reducible refine (HS.out u w1 ho1 hu).mono ?_); rintro e w2 ⟨rfl, ho2⟩))
  go_ret
  exact ⟨rfl, ho1.trans ho2⟩
end Go.Proofs.YtabcobadglgfkaaGreatDoor

/- Bytes that are entries' are read as them: plain facts on the readers' lists. -/
namespace Go.Proofs.YtabcobadglgfkaaGreatDoor
open Go.RowKit

theorem unp_small : ∀ (n : Nat) (l : List UInt8) (xs : List (List UInt8)), M.unp n l = some xs → ∀ s ∈ xs, s.length ≤ l.length
  | 0, l, xs, h, s, hs => by
      have h : some [] = some xs := h
      injection h with h; subst h; simp at hs
  | n + 1, l, xs, h, s, hs => by
      unfold M.unp at h
      split at h
      · injection h with h; subst h; simp at hs
      · split at h
        · cases h
        · rename_i h1 h2
          obtain ⟨ys, hy, rfl⟩ := Option.map_eq_some_iff.1 h
          have hc := cut_len l
          rcases List.mem_cons.1 hs with rfl | hs
          · exact hc.1
          · exact Nat.le_trans (unp_small n _ ys hy s hs) hc.2
theorem listS_small {r : List UInt8 × Int} : ∀ s ∈ (listS r).1, s.length ≤ r.1.length := by
  intro s hs
  unfold listS at hs
  split at hs
  · simp at hs
  · split at hs
    · rename_i l hl
      exact Nat.le_trans (unp_small _ _ _ hl s hs) (nextS_len r).1
    · simp at hs
/-- Behind a list there is less. -/
theorem listS_less {r : List UInt8 × Int} (h : r.1 ≠ []) (h0 : r.2 = 0) : (listS r).2.1.length < r.1.length ∧ ((listS r).2.2 ≠ 0 → (listS r).2.1 = []) := by
  obtain ⟨l, x⟩ := r
  simp only at h h0
  subst h0
  have hpos : 0 < l.length := List.length_pos_iff.2 h
  by_cases hc : (M.cut l).2.2 = 0
  · have e : nextS (l, 0) = ((M.cut l).1, true, ((M.cut l).2.1, 0)) := by simp [nextS, hc]
    have hs := M.cut_shorter hc
    unfold listS
    rw [e]
    simp only [Bool.true_eq_false, if_false]
    split
    · exact ⟨by show (M.cut l).2.1.length < l.length; omega, fun h => absurd rfl h⟩
    · exact ⟨by simpa using hpos, fun _ => rfl⟩
  · have e : nextS (l, 0) = ([], false, ([], (M.cut l).2.2)) := by simp [nextS, hc]
    unfold listS
    rw [e]
    exact ⟨by simpa using hpos, fun _ => rfl⟩
theorem rightE_small {e : M.En} (h : M.rightE e = true) : e.1.length ≤ 48 ∧ e.2.2.length = 32 := by
  rw [rightE_isN] at h
  simp only [Bool.and_eq_true, decide_eq_true_eq] at h
  exact ⟨isN_path h.1, h.2⟩
theorem parts_small3 {e : M.En} (h : M.rightE e = true) : ∀ s ∈ [e.1, M.mark e.2.1, e.2.2], s.length < 10000000 := by
  obtain ⟨h1, h2⟩ := rightE_small h
  intro s hs
  simp only [List.mem_cons, List.not_mem_nil, or_false] at hs
  rcases hs with rfl | rfl | rfl
  · omega
  · show 1 < _; omega
  · omega
theorem packs3_small {e : M.En} (h : M.rightE e = true) : (M.packs [e.1, M.mark e.2.1, e.2.2]).length < 10000000 := by
  have h1 := enBytes_len h
  have h2 : (M.packs [e.1, M.mark e.2.1, e.2.2]).length ≤ (M.enBytes e).length := pack_ge _
  omega
theorem listS_entry {e : M.En} (h : M.rightE e = true) (r : List UInt8) : listS (M.enBytes e ++ r, 0) = ([e.1, M.mark e.2.1, e.2.2], (r, 0)) := by
  have hc : M.cut (M.enBytes e ++ r) = (M.packs [e.1, M.mark e.2.1, e.2.2], r, 0) := M.cut_pack _ r (packs3_small h)
  have hn : nextS (M.enBytes e ++ r, 0) = (M.packs [e.1, M.mark e.2.1, e.2.2], true, (r, 0)) := by simp [nextS, hc]
  unfold listS
  rw [hn]
  simp only [Bool.true_eq_false, if_false]
  rw [M.unpk_packs _ (parts_small3 h)]
theorem enBytes_ne (e : M.En) : M.enBytes e ≠ [] := M.pack_ne _
theorem bytes_ne {es : List M.En} (h : M.bytes es = []) : es = [] := by
  cases es with
  | nil => rfl
  | cons e r => rw [M.bytes_cons] at h; exact absurd (List.append_eq_nil_iff.1 h).1 (enBytes_ne e)
/-- What was read so far of bytes that are entries'. -/
def Readin (d : List UInt8) (es : List M.En) (r : List UInt8 × Int) : Prop := ∀ xs, M.right xs = true → M.bytes xs = d → ∃ ys, xs = es ++ ys ∧ r = (M.bytes ys, 0)
theorem Readin.start (d : List UInt8) : Readin d [] (d, 0) := fun xs _ h => ⟨xs, rfl, by rw [h]⟩
theorem Readin.next {d : List UInt8} {es : List M.En} {r : List UInt8 × Int} (h : Readin d es r) (hne : r.1 ≠ []) {xs : List M.En} (h1 : M.right xs = true) (h2 : M.bytes xs = d) :
    ∃ y ys, xs = es ++ y :: ys ∧ listS r = ([y.1, M.mark y.2.1, y.2.2], (M.bytes ys, 0)) := by
  obtain ⟨ys, e1, e2⟩ := h xs h1 h2
  cases ys with
  | nil => rw [e2] at hne; exact absurd rfl hne
  | cons y ys =>
    refine ⟨y, ys, e1, ?_⟩
    rw [e2, M.bytes_cons]
    exact listS_entry (right_all h1 y (by rw [e1]; simp)) _
theorem Readin.bad {d : List UInt8} {es : List M.En} {r : List UInt8 × Int} (h : Readin d es r) (hne : r.1 ≠ []) (h3 : (listS r).1.length ≠ 3) : M.decode d = none := by
  cases hd : M.decode d with
  | none => rfl
  | some xs =>
    obtain ⟨h1, h2⟩ := M.decode_some hd
    obtain ⟨y, ys, _, e⟩ := h.next hne h1 h2
    rw [e] at h3
    exact absurd rfl h3
theorem mark_inj {d : Bool} : (M.mark d == [100]) = d := by cases d <;> rfl
theorem Readin.step {d : List UInt8} {es : List M.En} {r : List UInt8 × Int} {l0 l1 l2 : List UInt8} (h : Readin d es r) (hne : r.1 ≠ []) (hl : (listS r).1 = [l0, l1, l2]) : Readin d (es ++ [(l0, l1 == [100], l2)]) (listS r).2 := fun xs h1 h2 => by
  obtain ⟨y, ys, e1, e2⟩ := h.next hne h1 h2
  rw [e2] at hl
  simp only [List.cons.injEq, and_true] at hl
  obtain ⟨rfl, rfl, rfl⟩ := hl
  refine ⟨ys, ?_, by rw [e2]⟩
  rw [e1, mark_inj]
  simp
theorem Readin.done {d : List UInt8} {es : List M.En} {r : List UInt8 × Int} (h : Readin d es r) (hr : r.1 = []) : M.decode d = if M.right es = true ∧ M.bytes es = d then some es else none := by
  split
  · rename_i hx
    cases hd : M.decode d with
    | none => exact absurd ⟨es, hx⟩ (M.decode_none hd)
    | some xs =>
      obtain ⟨h1, h2⟩ := M.decode_some hd
      obtain ⟨ys, e1, e2⟩ := h xs h1 h2
      rw [e2] at hr
      rw [e1, bytes_ne hr, List.append_nil]
  · rename_i hx
    cases hd : M.decode d with
    | none => rfl
    | some xs =>
      obtain ⟨h1, h2⟩ := M.decode_some hd
      obtain ⟨ys, e1, e2⟩ := h xs h1 h2
      rw [e2] at hr
      rw [bytes_ne hr, List.append_nil] at e1
      subst e1
      exact absurd ⟨h1, h2⟩ hx
theorem bytes_more : ∀ es : List M.En, es.length ≤ (M.bytes es).length
  | [] => by simp
  | e :: r => by
      have := bytes_more r
      rw [M.bytes_cons, List.length_append, List.length_cons]
      have := List.length_pos_iff.2 (enBytes_ne e)
      omega
theorem decode_len {d : List UInt8} {es : List M.En} (h : M.decode d = some es) : es.length ≤ d.length := by
  obtain ⟨_, h2⟩ := M.decode_some h
  rw [← h2]
  exact bytes_more es
end Go.Proofs.YtabcobadglgfkaaGreatDoor
