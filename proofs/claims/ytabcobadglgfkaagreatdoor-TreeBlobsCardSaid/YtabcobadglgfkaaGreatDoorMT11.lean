/- Merged of: TreeRI TreeRJ TreeRK. -/
import Derived.Test.YtabcobadglgfkaaGreatDoorMT10
import Derived.Test.YtabcobadglgfkaaGreatDoorMT8
/- Rising lists that grow, and how many directories there are: plain facts. -/
namespace Go.Proofs.YtabcobadglgfkaaGreatDoor
open Go.RowKit

/-- A rising list grown by texts. -/
def Grew (l xs l' : List (List UInt8)) : Prop := M.rising l' ∧ (∀ x, x ∈ l' ↔ x ∈ l ∨ x ∈ xs) ∧ l'.length ≤ l.length + xs.length
theorem Grew.refl {l : List (List UInt8)} (h : M.rising l) : Grew l [] l := ⟨h, fun x => by simp, by simp⟩
theorem Grew.one {l : List (List UInt8)} (h : M.rising l) (s : List UInt8) : Grew l [s] (M.insN l s) :=
  ⟨M.rising_insN s h, fun x => by rw [M.mem_insN, List.mem_singleton]; exact ⟨Or.symm, Or.symm⟩, by have := M.insN_len l s; simpa using this⟩
theorem Grew.trans {a b c xs ys : List (List UInt8)} (h1 : Grew a xs b) (h2 : Grew b ys c) : Grew a (xs ++ ys) c :=
  ⟨h2.1, fun x => by rw [h2.2.1, h1.2.1, List.mem_append, or_assoc], by have := h1.2.2; have := h2.2.2; rw [List.length_append]; omega⟩
theorem Grew.swap {a b xs ys : List (List UInt8)} (h : Grew a (xs ++ ys) b) : Grew a (ys ++ xs) b :=
  ⟨h.1, fun x => by rw [h.2.1, List.mem_append, List.mem_append, or_comm (a := x ∈ xs)], by have := h.2.2; rw [List.length_append] at this ⊢; omega⟩
theorem Grew.set {xs b : List (List UInt8)} (h : Grew [] xs b) : b = M.setOf xs := M.setOf_ext h.1 fun x => by rw [h.2.1]; simp

theorem less_all {fs : List M.Fi} (h : Less fs) : (M.all fs).length ≤ 1000001 := by
  have h1 := all_count 1001 fs (fun f hf => by have := (h.2 f hf).1; omega)
  have h2 := weight_le fs 1000 (fun f hf => (h.2 f hf).1)
  have h3 : fs.length * 1000 ≤ 1000 * 1000 := Nat.mul_le_mul_right _ h.1
  omega
/-- The directories in a directory, by so many of its first names. -/
abbrev part (fs : List M.Fi) (k : Nat) : List (List M.En) := seenOf fs ((M.names fs).take k)
theorem part_succ (fs : List M.Fi) (k : Nat) (h : k < (M.names fs).length) : part fs (k + 1) = part fs k ++ if (M.get fs (M.names fs)[k]).2 = true then [] else M.all (M.under fs (M.names fs)[k]) := by
  unfold part
  rw [List.take_succ_eq_append_getElem h, seen_snoc]
theorem part_le (fs : List M.Fi) (k : Nat) : (part fs k).length + 1 ≤ (M.all fs).length := by
  have := seen_take fs (M.names fs) k
  rw [all_seen, List.length_append, List.length_singleton]
  show (seenOf fs ((M.names fs).take k)).length + 1 ≤ _
  omega
theorem part_all (fs : List M.Fi) : M.all fs = part fs (M.names fs).length ++ [M.dir fs] := by
  unfold part
  rw [List.take_length, all_seen]
end Go.Proofs.YtabcobadglgfkaaGreatDoor

/- The document's blobs of files. -/
namespace Go.Proofs.YtabcobadglgfkaaGreatDoor
open Go.RowKit

theorem El.nth {w : World} {p : Option Addr} {n cap : Nat} {fs : List M.Fi} (h : El w (.slice p n cap) (M.dir fs)) {k : Nat} (hk : k < (M.names fs).length) :
    ∃ b off, p = some ⟨b, off, none⟩ ∧ b < w.heap.size ∧ w.cell? ⟨b, off + k * 3, none⟩ = some (S (M.names fs)[k]) ∧ w.cell? ⟨b, off + k * 3 + 1, none⟩ = some (.bool (!(M.get fs (M.names fs)[k]).2)) := by
  have hl : (M.dir fs).length = (M.names fs).length := by rw [M.dir_eq, List.length_map]
  obtain ⟨b, off, rfl, hb, hc⟩ := h.at (by intro h0; rw [h0] at hl; simp at hl; omega)
  obtain ⟨c0, c1, _⟩ := hc k (by omega)
  refine ⟨b, off, rfl, hb, ?_, ?_⟩
  · rw [c0]
    have e : (M.dir fs)[k]'(by omega) = M.entry fs (M.names fs)[k] := by simp [M.dir_eq]
    rw [e, (entry_neat fs _).1]
  · rw [c1]
    have e : (M.dir fs)[k]'(by omega) = M.entry fs (M.names fs)[k] := by simp [M.dir_eq]
    rw [e]
    unfold M.entry
    cases (M.get fs (M.names fs)[k]).2 <;> simp

theorem El.lenN {w : World} {v : Value} {fs : List M.Fi} (h : El w v (M.dir fs)) : ∃ p cap, v = .slice p (M.names fs).length cap := by
  obtain ⟨p, cap, e⟩ := h.len
  exact ⟨p, cap, by rw [e, M.dir_eq, List.length_map]⟩
theorem dirBlobs_one (es : List M.En) : M.dirBlobs [es] = if M.right es = true then [M.bytes es] else [] := by
  unfold M.dirBlobs
  cases h : M.right es <;> simp [h]

set_option maxHeartbeats 4000000 in
set_option maxRecDepth 100000 in
theorem rdirs_walk (hp : PressSpec) (fs : List M.Fi) (v o : Value) (out : List (List UInt8)) (w : World) (ht : Less fs) (h : Fl w v fs) (hO : Tl w o out) (hr : M.rising out) (hn : out.length + (M.all fs).length ≤ 1000000000)
    (HREC : ∀ n ∈ M.names fs, ∀ w1 v1 o1 out1, Fl w1 v1 (M.under fs n) → Tl w1 o1 out1 → M.rising out1 → out1.length + (M.all (M.under fs n)).length ≤ 1000000000 →
      Calls Tryz.prog 55 #[o1, v1] w1 fun e w' => ∃ u l', e = .returned u ∧ Tl w' u l' ∧ Grew out1 (M.dirBlobs (M.all (M.under fs n))) l' ∧ Old w1 w') :
    Calls Tryz.prog 55 #[o, v] w fun e w' => ∃ u l', e = .returned u ∧ Tl w' u l' ∧ Grew out (M.dirBlobs (M.all fs)) l' ∧ Old w w' := by
  have HD := Lib.hid (rdir_any hp fs [] v w ht h (by simp))
  rw [show M.dirAt fs [] = M.dir fs from if_pos rfl] at HD
  have hlb := less_bytes ht
  have hal := part_le fs 0
  have HRT := Lib.hid (fun (u : Value) (w1 : World) (h : El w1 u (M.dir fs)) => right_any u (M.dir fs) w1 h (by unfold maxLen; omega) (fun e he => by
    have := (neat_dir ht.tame).2 e he
    unfold maxLen; omega))
  have HBY := Lib.hid (fun (u : Value) (w1 : World) (h : El w1 u (M.dir fs)) => rbytes_any u (M.dir fs) w1 h (by unfold maxLen; omega) (by omega))
  have HAD := Lib.hid (fun (w1 : World) (ho : Old w w1) => add_any o out (M.bytes (M.dir fs)) w1 (hO.old ho) (by omega))
  have H := Lib.hid h
  have HOT := Lib.hid hO
  have HT := Lib.hid ht
  have HG1 := Lib.hid (show M.right (M.dir fs) = true → Grew out (M.dirBlobs [M.dir fs]) (M.insN out (M.bytes (M.dir fs))) from fun hx => by rw [dirBlobs_one, if_pos hx]; exact Grew.one hr _)
  have HG0 := Lib.hid (show M.right (M.dir fs) = false → Grew out (M.dirBlobs [M.dir fs]) out from fun hx => by rw [dirBlobs_one, hx]; exact Grew.refl hr)
  have HRE := Lib.hid HREC
  have HPA := Lib.hid (show M.dirBlobs (M.all fs) = M.dirBlobs (part fs (M.names fs).length) ++ M.dirBlobs [M.dir fs] from by rw [← M.dirBlobs_append, ← part_all])
  have HPL := Lib.hid (part_le fs)
  have hnl := M.names_len fs
  have hfl := ht.1
  clear h hO hr ht HREC hlb hal
  generalize M.right (M.dir fs) = r at *
  go_enter Tryz.func55, Tryz.ntmps55
  go_upto_if 10 with (first
    | ((with_reducible refine HD.out.mono ?_); rintro e w1 ⟨u, rfl, hu, o1⟩)
    | ((with_reducible refine (HRT.out u w1 hu).mono ?_); rintro e w2 ⟨rfl, nd, rfl⟩))
  have HEL := Lib.hid (hu.drewN nd)
  have HO1 := Lib.hid (o1.trans (Old.drewN w1 nd))
  clear hu o1 HD HRT
  generalize w1.drewN nd = w2 at *
  obtain ⟨pp, cap, rfl⟩ := HEL.out.lenN
  go_cut [0] (fun ov wx => ∃ l1, Tl wx ov l1 ∧ Grew out (M.dirBlobs [M.dir fs]) l1 ∧ Old w2 wx)
  case first =>
    cases r with
    | true =>
      have HGA := Lib.hid (HG1.out rfl)
      clear HG1 HG0
      go_wp2_with (first
        | ((with_reducible refine (HBY.out _ _ HEL.out).mono ?_); rintro e w3 ⟨rfl, o3⟩)
        | ((with_reducible refine (HAD.out _ (HO1.out.trans o3)).mono ?_); rintro e w4 ⟨u4, rfl, ht4, o4⟩))
      go_meet
      case rel => exact ⟨_, ht4, HGA.out, o3.trans o4⟩
    | false =>
      have HGA := Lib.hid (HG0.out rfl)
      clear HG1 HG0
      go_wp2
      go_meet
      case rel => exact ⟨_, HOT.out.old HO1.out, HGA.out, Below.refl _ _⟩
  case rest =>
    obtain ⟨l1, ht1, hg1, oc⟩ := hcut
    have HEC := Lib.hid (HEL.out.old oc)
    have HOC := Lib.hid (HO1.out.trans oc)
    have HT1 := Lib.hid ht1
    have HG := Lib.hid hg1
    clear ht1 hg1 oc HG1 HG0 HBY HAD HEL HO1 HOT
    go_wp2
    go_loopw [0, 6] (fun ov i wr => ∃ (k : Nat) (l2 : List (List UInt8)), k ≤ (M.names fs).length ∧ i = .int .i64 k ∧ Tl wr ov l2 ∧ Hid (Grew out (M.dirBlobs [M.dir fs] ++ M.dirBlobs (part fs k)) l2) ∧ Old wc wr) (fun _ i _ => (M.names fs).length - (intOf i).toNat)
    case atStart => exact ⟨0, l1, Nat.zero_le _, rfl, HT1.out, Lib.hid (by rw [show M.dirBlobs (part fs 0) = [] from rfl, List.append_nil]; exact HG.out), Below.refl _ _⟩
    case round =>
      obtain ⟨k, l2, hk, rfl, ht2, hg2, ho2⟩ := hrel
      have HT2 := Lib.hid ht2
      have HO2 := Lib.hid ho2
      clear ht2 ho2
      by_cases hlt : k < (M.names fs).length
      · obtain ⟨b, off, rfl, hb, c0, c1⟩ := (HEC.out.old HO2.out).nth hlt
        have HMEM := Lib.hid (List.getElem_mem hlt)
        have hnn := name_tame HT.out.tame HMEM.out
        have HPS := Lib.hid (part_succ fs k hlt)
        have HUD := Lib.hid (runder_any _ fs (M.names fs)[k] wr (H.out.old (HOC.out.trans HO2.out)) HT.out.tame.alls (by omega))
        have HRC := Lib.hid (HRE.out (M.names fs)[k] HMEM.out)
        have HLN := Lib.hid (show l2.length + (M.all (M.under fs (M.names fs)[k])).length ≤ 1000000000 ∨ (M.get fs (M.names fs)[k]).2 = true from by
          cases hgt : (M.get fs (M.names fs)[k]).2 with
          | true => exact Or.inr rfl
          | false =>
            left
            have h1 := hg2.out.2.2
            have h2 := HPL.out (k + 1)
            have h3 := part_succ fs k hlt
            rw [hgt, if_neg (by simp)] at h3
            rw [h3, List.length_append] at h2
            have h4 := dirBlobs_len (part fs k)
            have h5 := dirBlobs_len [M.dir fs]
            rw [List.length_append] at h1
            simp only [List.length_singleton] at h5
            omega)
        clear HMEM
        generalize (M.names fs)[k] = n at *
        generalize (M.get fs n).2 = isf at *
        cases isf with
        | true =>
          rw [if_pos rfl, List.append_nil] at HPS
          clear HLN HRC HUD
          rw [Bool.not_true] at c1
          go_wp2
          go_roundw
          case rel => exact ⟨k + 1, l2, by omega, by go_num, HT2.out, by rw [HPS.out]; exact hg2, HO2.out⟩
          case measure => simp [intOf]; omega
        | false =>
          rw [if_neg (by decide)] at HPS
          have hln : l2.length + (M.all (M.under fs n)).length ≤ 1000000000 := by
            rcases HLN.out with h | h
            · exact h
            · cases h
          rw [Bool.not_false] at c1
          obtain ⟨p0, cp0, rfl⟩ := HT2.out.len
          have HRX := Lib.hid (fun (w3 : World) (v3 : Value) (hv : Fl w3 v3 (M.under fs n)) (ho : Old wr w3) => HRC.out w3 v3 _ l2 hv (HT2.out.old ho) hg2.out.1 hln)
          clear HLN HRC
          go_wp2_with (first
            | ((with_reducible refine HUD.out.mono ?_); rintro e w3 ⟨u3, rfl, hu3, o3⟩)
            | ((with_reducible refine (HRX.out w3 u3 hu3.fl o3).mono ?_); rintro e w4 ⟨u4, l4, rfl, ht4, hg4, o4⟩))
          go_roundw
          case rel => exact ⟨k + 1, l4, by omega, by go_num, ht4, Lib.hid (by rw [HPS.out, M.dirBlobs_append, ← List.append_assoc]; exact hg2.out.trans hg4), HO2.out.trans (o3.trans o4)⟩
          case measure => simp [intOf]; omega
      · obtain rfl : k = (M.names fs).length := by omega
        go_wp2
        go_ret
        exact ⟨_, l2, rfl, HT2.out, by rw [HPA.out]; exact hg2.out.swap, HOC.out.trans HO2.out⟩
theorem rdirs_rec (hp : PressSpec) (k : Nat) : ∀ (fs : List M.Fi), (∀ f ∈ fs, f.1.length < k) → Less fs → ∀ (w : World) (v o : Value) (out : List (List UInt8)), Fl w v fs → Tl w o out → M.rising out → out.length + (M.all fs).length ≤ 1000000000 →
    Calls Tryz.prog 55 #[o, v] w fun e w' => ∃ u l', e = .returned u ∧ Tl w' u l' ∧ Grew out (M.dirBlobs (M.all fs)) l' ∧ Old w w' := by
  induction k using Nat.strongRecOn with
  | ind k ih =>
    intro fs hk ht w v o out h hO hr hn
    refine rdirs_walk hp fs v o out w ht h hO hr hn ?_
    intro n hm w1 v1 o1 out1 h1 h2 h3 h4
    obtain ⟨f, hf, _⟩ := M.mem_names.1 hm
    have hf := hk f hf
    exact ih (k - 1) (by omega) (M.under fs n) (fun g hg => by
      obtain ⟨g', hg', h1, _⟩ := M.under_short hg
      have := hk g' hg'
      omega) (ht.under n) w1 v1 o1 out1 h1 h2 h3 h4

set_option maxHeartbeats 2000000 in
set_option maxRecDepth 100000 in
theorem rblobs_any (hp : PressSpec) (fs : List M.Fi) (v : Value) (w : World) (ht : Less fs) (h : Fl w v fs) :
    Calls Tryz.prog 25 #[v] w fun e w' => ∃ u, e = .returned u ∧ Tl w' u (M.blobs fs) ∧ Old w w' := by
  have H := Lib.hid h
  have hfl := ht.1
  have hla := less_all ht
  have HDS := Lib.hid (fun (w1 : World) (o : Value) (out : List (List UInt8)) (ho : Old w w1) (hO : Tl w1 o out) (hr : M.rising out) (hl : out.length ≤ 1000) =>
    rdirs_rec hp 1001 fs (fun f hf => by have := (ht.2 f hf).1; omega) ht w1 v o out (h.old ho) hO hr (by omega))
  obtain ⟨p, cap, rfl⟩ := h.len
  clear h ht
  go_enter Tryz.func25, Tryz.ntmps25
  go_wp2
  go_loopw [3, 4] (fun ov i wr => ∃ (k : Nat) (l : List (List UInt8)), k ≤ fs.length ∧ i = .int .i64 k ∧ Tl wr ov l ∧ Hid (Grew [] ((fs.take k).map (·.2)) l) ∧ Old w wr) (fun _ i _ => fs.length - (intOf i).toNat)
  case atStart => exact ⟨0, [], Nat.zero_le _, rfl, Tl.nil _, Lib.hid (Grew.refl List.Pairwise.nil), Below.refl _ _⟩
  case round =>
    obtain ⟨k, l, hk, rfl, htl, hg, ho⟩ := hrel
    have HTL := Lib.hid htl
    have HO := Lib.hid ho
    have hll := hg.out.2.2
    rw [List.length_map, List.length_take, List.length_nil] at hll
    clear htl ho
    by_cases hlt : k < fs.length
    · obtain ⟨b, off, rfl, hb, hc⟩ := (H.out.old HO.out).at (by intro h; rw [h] at hlt; exact absurd hlt (Nat.not_lt_zero _))
      obtain ⟨_, c1⟩ := hc k hlt
      have HSN := Lib.hid (show (fs.take (k + 1)).map (·.2) = (fs.take k).map (·.2) ++ [fs[k].2] from by rw [List.take_succ_eq_append_getElem hlt, List.map_append]; rfl)
      have HAD := Lib.hid (add_any u3 l fs[k].2 wr HTL.out (by omega))
      clear hc
      generalize fs[k].2 = d at *
      go_wp2_with ((with_reducible refine HAD.out.mono ?_); rintro e w2 ⟨u2, rfl, ht2, o2⟩)
      go_roundw
      case rel => exact ⟨k + 1, _, by omega, by go_num, ht2, Lib.hid (by rw [HSN.out]; exact hg.out.trans (Grew.one hg.out.1 d)), HO.out.trans o2⟩
      case measure => simp [intOf]; omega
    · obtain rfl : k = fs.length := by omega
      have HR := Lib.hid (HDS.out wr u3 l HO.out HTL.out hg.out.1 (by omega))
      go_wp2_with ((with_reducible refine HR.out.mono ?_); rintro e w2 ⟨u2, l2, rfl, ht2, hg2, o2⟩)
      go_ret
      refine ⟨_, rfl, ?_, HO.out.trans o2⟩
      have hx := hg.out.trans hg2
      rw [List.take_length] at hx
      have := hx.set
      unfold M.blobs
      rw [← this]
      exact ht2
end Go.Proofs.YtabcobadglgfkaaGreatDoor

/- The blobs of files, as the program has them; are two lists of texts the same. -/
namespace Go.Proofs.YtabcobadglgfkaaGreatDoor
open Go.RowKit Go.Sort

theorem Bag.old {c B : Nat} {w w' : World} {v : Value} {l : List (List UInt8)} (h : Bag c B w v l) (k : Old w w') : Bag c B w' v l :=
  ⟨h.box.old k, row_keep h.row (Keep.of_old (S := fun _ => False) k) (fun _ _ h => h), h.lt, Nat.le_trans h.le k.size⟩
theorem Bag.len {c B : Nat} {w : World} {v : Value} {l : List (List UInt8)} (h : Bag c B w v l) : ∃ p cap, v = .slice p l.length cap := by
  obtain ⟨p, cap, e⟩ := (Sl.of_row (xs := l.map vstr) (by simpa using h.row)).len
  exact ⟨p, cap, by rw [e, List.length_map]⟩
theorem globs_env {w : World} (hE : Env w) : Globs w.heap.size := by
  rintro k (rfl | rfl | rfl | rfl)
  · obtain ⟨m, hm⟩ := hE.mx
    exact World.block_lt_of_cell? _ _ hm
  · exact var_lt num_initial hE.tabs.1
  · exact var_lt num_orders hE.tabs.2
  · exact var_lt tab_num hE.tab
theorem Vis.bagOld {c B : Nat} {w0 w w' : World} {v : Value} {l : List (List UInt8)} (h : Vis (bagFoot c) w w') (hb : Bag c B w v l) (ho : Old w0 w) (hc : w0.heap.size ≤ c) : Old w0 w' := by
  refine Below.trans ho (h.keep.below ho.size fun k hk hx => ?_)
  have hs := ho.size
  rcases hx with hx | hx
  · rcases hb.foot.1 hx with e | e
    · omega
    · have := row_from hb.row k e
      have := hb.lt
      omega
  · omega

set_option maxHeartbeats 4000000 in
set_option maxRecDepth 100000 in
theorem blobs_any (fs : List M.Fi) (v : Value) (w : World) (hE : Env w) (h : Fl w v fs) (ht : Less fs) :
    Calls Tryz.prog 24 #[v] w fun e w' => ∃ u, e = .returned u ∧ Sl w'.heap.size w' u ((M.blobs fs).map vstr) ∧ Old w w' := by
  obtain ⟨i0, hi, hz0, hz1, hz2⟩ := info_parts infoString'
  have hlen := ht.1
  have hla := less_all ht
  have hg := globs_env hE
  have HW := Lib.hid (fun (w1 : World) (ho : Old w w1) (l0 : List (List UInt8)) (hl : l0.length ≤ 1000) (hI : bagI w.heap.size (w.heap.size + 1) l0 [] w1) =>
    walk_any (visit_bag w.heap.size (w.heap.size + 1) l0 hg) 51 #[.pointer (some ⟨w.heap.size, 0, none⟩)] enter_blobs1 (M.all fs).length (visits_bag w.heap.size (w.heap.size + 1) l0 hg (M.all fs).length (by omega)) fs v w1 [] (by simp) hI (hE.old ho) (h.old ho) ht.tame)
  have H := Lib.hid h
  have hdl := dirBlobs_len (M.all fs)
  obtain ⟨pp, cap, rfl⟩ := h.len
  clear h hE ht hg
  go_enter Tryz.func24, Tryz.ntmps24
  go_wp2
  go_loopw [8] (fun i wr => ∃ (k : Nat) (u : Value), k ≤ fs.length ∧ i = .int .i64 k ∧ Bag w.heap.size (w.heap.size + 1) wr u ((fs.take k).map (·.2)) ∧ Old w wr) (fun i _ => fs.length - (intOf i).toNat)
  case atStart => exact ⟨0, .slice none 0 0, Nat.zero_le _, rfl, ⟨Blk.new w _ _, World.ownsRow_nil _ _ _ _, by omega, by simp⟩, Old.alloc _ _⟩
  case round =>
    obtain ⟨k, u, hk, rfl, hb, ho⟩ := hrel
    have HB := Lib.hid hb
    have HO := Lib.hid ho
    clear hb ho
    by_cases hlt : k < fs.length
    · obtain ⟨b, off, rfl, hbl, hc⟩ := (H.out.old HO.out).at (by intro h; rw [h] at hlt; exact absurd hlt (Nat.not_lt_zero _))
      obtain ⟨hc0, hc1⟩ := hc k hlt
      have HSN := Lib.hid (show (fs.take (k + 1)).map (·.2) = (fs.take k).map (·.2) ++ [fs[k].2] from by rw [List.take_succ_eq_append_getElem hlt, List.map_append]; rfl)
      have hll : ((fs.take k).map (·.2)).length ≤ 1000 := by rw [List.length_map, List.length_take]; omega
      clear hc
      generalize fs[k] = f at *
      generalize (fs.take k).map (·.2) = l at *
      obtain ⟨w2, ew2, hb2, ho2⟩ : ∃ w2, wr.alloc (.cells #[S f.1, S f.2] 54) = w2 ∧ Blk w2 wr.heap.size #[S f.1, S f.2] 54 ∧ Old wr w2 := ⟨_, rfl, Blk.new wr _ _, Old.alloc wr _⟩
      have d1 := hb2.cellN 1 rfl
      have HO2 := Lib.hid (HO.out.trans ho2)
      have HB2 := Lib.hid (HB.out.old ho2)
      have e0 := HB2.out.box.cellN 0 rfl
      obtain ⟨pu, cu, rfl⟩ := HB.out.len
      have hrowA : (w2.alloc (.cells #[S f.2] 9)).ownsRow (w.heap.size + 1) 9 1 (.slice pu l.length cu) l.length (l.map vstr) := row_keep HB2.out.row (Keep.of_old (S := fun _ => False) (Old.alloc w2 _)) (fun _ _ h => h)
      have hB1 : l.length + 1 ≤ maxLen := by unfold maxLen; omega
      have hB2 : (l.length + 1) * 16 ≤ 140737488355328 := by omega
      have hB3 : w.heap.size + 1 ≤ (w2.alloc (.cells #[S f.2] 9)).heap.size := by rw [World.size_alloc]; have := HB2.out.le; omega
      have HBXA := Lib.hid (show Blk (w2.alloc (.cells #[S f.2] 9)) w.heap.size #[.slice pu l.length cu] 43 from HB2.out.box.alloc _)
      have HOA := Lib.hid (HO2.out.trans (Old.alloc w2 (.cells #[S f.2] 9)))
      clear hb2 ho2
      go_wp2_with (at_builtin; refine wpList_append_own_at _ rfl _ _ 43 rfl (w.heap.size + 1) 9 i0 _ 1 16 Tryz.underlying43 hi hz0 hz1 hz2 rfl (by decide) _ _ _ rfl hrowA ⟨w2.heap.size, 0, none⟩ 1 1 [S f.2] rfl rfl (cell_one_new _ _ _) (by intro u hu; rw [List.mem_singleton] at hu; subst hu; rfl) hB1 hB2 hB3 ?_)
      intro v' w3 hown3 hgrow3 _ hat3
      have hcr : (Value.slice pu l.length cu).ownBlock ≠ some w.heap.size := fun e => by have := row_from HB.out.row w.heap.size e; omega
      have hbx3 : Blk w3 w.heap.size #[.slice pu l.length cu] 43 := HBXA.out.grown hgrow3 (fun e => hcr e)
      have hc3 := hbx3.cellN 0 rfl
      have hf3 := hbx3.free 0
      obtain ⟨pv, nv, cv, rfl⟩ : ∃ p n c, v' = .slice p n c := by
        rcases hown3.2 with ⟨hv, _⟩ | ⟨g, cap, cur, hv, _⟩
        · exact ⟨_, _, _, hv⟩
        · exact ⟨_, _, _, hv⟩
      have hcv : (Value.slice pv nv cv).ownBlock ≠ some w.heap.size := fun e => by have := row_from hown3 w.heap.size e; omega
      have hrow3 : w3.ownsRow (w.heap.size + 1) 9 1 (.slice pv nv cv) (l ++ [f.2]).length ((l ++ [f.2]).map vstr) := by
        rw [List.length_append, List.map_append]
        exact hown3
      have HN := Lib.hid (show Bag w.heap.size (w.heap.size + 1) (w3.setCell ⟨w.heap.size, 0, none⟩ (.slice pv nv cv)) (.slice pv nv cv) (l ++ [f.2]) from ⟨hbx3.set 0 _, row_other hrow3 hcv 0 _, by omega, Nat.le_trans hB3 (Nat.le_trans hgrow3.size (by simp [World.setCell]))⟩)
      have HON := Lib.hid (show Old w (w3.setCell ⟨w.heap.size, 0, none⟩ (.slice pv nv cv)) from
        Keep.old (((Keep.of_old (S := fun _ => False) HOA.out).grown hgrow3 (fun g hg => Or.inl (by have := row_from HB.out.row g hg; omega))).setCell (p := ⟨w.heap.size, 0, none⟩) (Or.inl (Nat.le_refl _)) _) (fun _ _ h => h))
      clear hown3 hgrow3 hat3 hrow3 hrowA hbx3
      go_wp2
      go_roundw
      case rel => exact ⟨k + 1, _, by omega, by go_num, by rw [HSN.out]; exact HN.out, HON.out⟩
      case measure => simp [intOf]; omega
    · obtain rfl : k = fs.length := by omega
      rw [List.take_length] at HB
      have hll : (fs.map (·.2)).length ≤ 1000 := by rw [List.length_map]; exact hlen
      have HWK := Lib.hid (HW.out wr HO.out (fs.map (·.2)) hll ⟨u, by rw [show M.dirBlobs [] = [] from rfl, List.append_nil]; exact HB.out⟩)
      clear HW
      go_wp2_with fail
      refine HWK.out.mono ?_
      rintro e w2 ⟨u2, rfl, _, _, ⟨u3, hb3⟩, hv3⟩
      rw [List.nil_append] at hb3
      have HO3 := Lib.hid (hv3.bagOld HB.out HO.out (Nat.le_refl _))
      have e0 := hb3.box.cellN 0 rfl
      have HBL := Lib.hid (show M.setOf (fs.map (·.2) ++ M.dirBlobs (M.all fs)) = M.blobs fs from rfl)
      have hl3 : (fs.map (·.2) ++ M.dirBlobs (M.all fs)).length ≤ 9000000000000 := by rw [List.length_append]; omega
      have HB3 := Lib.hid hb3
      clear hb3 hv3
      generalize fs.map (·.2) ++ M.dirBlobs (M.all fs) = l at *
      obtain ⟨pu, cu, rfl⟩ := HB3.out.len
      have HS := Lib.hid (sort_row HB3.out.row hl3)
      go_wp2_with fail
      refine HS.out.mono ?_
      rintro e w4 ⟨rfl, hown4, hg4⟩
      have hcr : (Value.slice pu l.length cu).ownBlock ≠ some w.heap.size := fun e => by have := row_from HB3.out.row w.heap.size e; omega
      have hb4 := (HB3.out.box.grown hg4 (fun e => hcr e)).cellN 0 rfl
      have hml : (l.mergeSort fun x y => decide (x ≤ y)).length = l.length := List.length_mergeSort _
      have HC := Lib.hid (compact_row (l := l.mergeSort fun x y => decide (x ≤ y)) (by rw [hml]; exact hown4) (by rw [hml]; exact hl3))
      rw [compact_sorted, HBL.out] at HC
      have HO4 := Lib.hid (show Old w w4 from Keep.old ((Keep.of_old (S := fun _ => False) HO3.out).grown hg4 (fun g hg => Or.inl (by have := row_from HB3.out.row g hg; omega))) (fun _ _ h => h))
      have HRF := Lib.hid (fun g hg => row_from HB3.out.row g hg)
      clear hown4 hg4 hcr hml
      go_wp2_with fail
      refine HC.out.mono ?_
      rintro e w5 ⟨u5, rfl, hsl5, hob5, hg5⟩
      have HS5 := Lib.hid hsl5
      have HO5 := Lib.hid (show Old w w5 from Keep.old ((Keep.of_old (S := fun _ => False) HO4.out).grown hg5 (fun g hg => Or.inl (by have := HRF.out g hg; omega))) (fun _ _ h => h))
      clear hsl5 hob5 hg5
      go_wp2
      go_ret
      exact ⟨_, rfl, HS5.out, HO5.out⟩

theorem vstr_at {w : World} {b off : Nat} {l : List (List UInt8)} (hc : ∀ j, j < (l.map vstr).length → w.cell? ⟨b, off + j, none⟩ = (l.map vstr)[j]?) (j : Nat) (h : j < l.length) : w.cell? ⟨b, off + j, none⟩ = some (S l[j]) := by
  rw [hc j (by simpa using h)]
  simp [h, vstr]
set_option maxHeartbeats 1000000 in
set_option maxRecDepth 100000 in
theorem textsT_any (v u : Value) (l : List (List UInt8)) (w : World) (h : Sl w.heap.size w v (l.map vstr)) (h2 : Tl w u l) (hl : l.length ≤ maxLen) :
    Calls Tryz.prog 23 #[v, u] w fun e w' => e = .returned (.bool true) ∧ ∃ n, w' = w.drewN n := by
  unfold maxLen at hl
  obtain ⟨p, cap, hv⟩ := h.len
  rw [List.length_map] at hv
  subst hv
  obtain ⟨p2, cap2, rfl⟩ := h2.len
  have H := Lib.hid h
  have H2 := Lib.hid h2
  clear h h2
  go_enter Tryz.func23, Tryz.ntmps23
  go_wp2
  go_loopw [5] (fun i wr => ∃ k n : Nat, k ≤ l.length ∧ i = .int .i64 k ∧ wr = w.drewN n) (fun i _ => l.length - (intOf i).toNat)
  case atStart => exact ⟨0, 0, Nat.zero_le _, rfl, rfl⟩
  case round =>
    obtain ⟨k, n, hk, rfl, rfl⟩ := hrel
    by_cases hlt : k < l.length
    · obtain ⟨b, off, rfl, hb, hc⟩ := H.out.at (by intro h; have := congrArg List.length h; simp at this; rw [this] at hlt; simp at hlt)
      obtain ⟨b2, off2, rfl, hb2, hd⟩ := H2.out.at (by intro h; rw [h] at hlt; exact absurd hlt (Nat.not_lt_zero _))
      have c0 : (w.drewN n).cell? ⟨b, off + k, none⟩ = some (S l[k]) := vstr_at hc k hlt
      have d0 : (w.drewN n).cell? ⟨b2, off2 + k, none⟩ = some (S l[k]) := hd k hlt
      clear hc hd hb hb2
      generalize l[k] = x at *
      have hxx : (x == x) = true := by rw [beq_list]; simp
      generalize hwq : w.drewN n = wq at *
      have HW := Lib.hid hwq
      clear hwq
      go_wp2
      go_quiet (fail)
      go_wp2
      go_roundw
      case rel => exact ⟨k + 1, n + nq, by omega, by go_num, by rw [← HW.out, drewN_add]⟩
      case measure => simp [intOf]; omega
    · obtain rfl : k = l.length := by omega
      go_wp2
      go_ret
      exact ⟨rfl, n, rfl⟩
end Go.Proofs.YtabcobadglgfkaaGreatDoor
