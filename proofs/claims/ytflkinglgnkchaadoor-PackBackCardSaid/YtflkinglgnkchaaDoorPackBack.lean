/- The law PackBack returns true at every list of texts and every number: what is packed is read by the same calls, to the end. Conditions: the row's own (the listed variables hold what the program's text lays). -/
import Derived.Test.YtflkinglgnkchaaDoorRefB
import Derived.Test.YtflkinglgnkchaaDoorLaid
import Derived.Test.YtflkinglgnkchaaDoorCards
import Derived.Test.YtflkinglgnkchaaDoorTie
namespace Go.Proofs.YtflkinglgnkchaaDoor
open Go.ChangeShapes Go.WideShapes Go.ChangeAt Go.ChangeMaps Go.RowKit

theorem packs_bound' {l : List (List UInt8)} (h : ∀ s ∈ l, s.length ≤ 2000) : (M.packs l).length ≤ l.length * 2020 := by
  induction l with
  | nil => simp [M.packs]
  | cons s l ih =>
    have h1 := ih (fun x hx => h x (by simp [hx]))
    have h2 := M.pack_len s (by have := h s (by simp); omega)
    have h3 := h s (by simp)
    have e : M.packs (s :: l) = M.pack s ++ M.packs l := by simp [M.packs]
    rw [e]
    simp only [List.length_append, List.length_cons]
    omega
theorem few_true' {l : List (List UInt8)} (h : fewB l = true) : l.length ≤ 200 ∧ ∀ s ∈ l, s.length ≤ 2000 := by
  simpa [fewB] using h
theorem packs_drop {l : List (List UInt8)} {k : Nat} (h : k < l.length) : M.packs (l.drop k) = M.pack l[k] ++ M.packs (l.drop (k + 1)) := by
  unfold M.packs
  rw [List.drop_eq_getElem_cons h, List.map_cons, List.flatten_cons]
theorem next_app (s r : List UInt8) (h : s.length < 10000000) : nextS (M.pack s ++ r, 0) = (s, true, (r, 0)) := by
  simp [nextS, M.cut_pack s r h]
theorem list_app {l : List (List UInt8)} (r : List UInt8) (h : ∀ s ∈ l, s.length < 10000000) (hp : (M.packs l).length < 10000000) : listS (M.pack (M.packs l) ++ r, 0) = (l, (r, 0)) := by
  simp [listS, next_app _ r hp, M.unpk_packs l h]
theorem num_app (n : Int) (h0 : -9223372036854775808 ≤ n) (h1 : n ≤ 9223372036854775807) (r : List UInt8) : numS (M.pack (Lib.itoa n) ++ r, 0) = (n, (r, 0)) := by
  have := M.itoa_len20 n h0 h1
  simp [numS, next_app _ r (show (Lib.itoa n).length < 10000000 by omega), M.parse_itoa n h0 h1]
theorem Keep.cellAt {S : Nat → Prop} {w w' : World} (k : Keep S w w') {a : Addr} {v : Value} (h : w.cell? a = some v) (hS : ¬ S a.block) : w'.cell? a = some v :=
  (World.cell?_of_block (w := w) (k.block _ (World.block_lt_of_cell? _ _ h) hS)).trans h

set_option maxHeartbeats 4000000 in
set_option maxRecDepth 100000 in
theorem packBack_few (w : World) (v : Value) (l : List (List UInt8)) (n : Int) (hv : Sl w.heap.size w v (l.map vstr)) (hl : l.length ≤ 200) (hs : ∀ s, s ∈ l → s.length ≤ 2000) (hf : fewB l = true) (h0 : -9223372036854775808 ≤ n) (h1 : n ≤ 9223372036854775807) (ht : Tab w) (he : Errs w)
    (hG : 2 < w.heap.size ∧ 0 < w.heap.size ∧ 1 < w.heap.size) :
    Calls Tryd.prog 7 #[v, .int .i64 n] w fun e w' => e = .returned (.bool true) ∧ Old w w' := by
  have hpb := packs_bound' hs
  have hpl := M.pack_len (M.packs l) (by omega)
  have hpi := M.pack_len (Lib.itoa n) (by have := M.itoa_len20 n h0 h1; omega)
  have hit := M.itoa_len20 n h0 h1
  have hF := Lib.hid (few_any v l w.heap.size w hv (by unfold maxLen; omega))
  rw [hf] at hF
  have hE : ∀ s, s ∈ l → s.length ≤ 9223372036854775000 := fun s h => Nat.le_trans (hs s h) (by decide)
  have g1 := Lib.hid (plist_any v l w.heap.size w ht hv (Nat.le_refl _) (by unfold maxLen; omega) (by omega) hE)
  have g2 := Lib.hid (fun (w1 : World) (o1 : Old w w1) => pnum_any n h0 h1 w1 (ht.old o1))
  have g3 := Lib.hid (fun (s : List UInt8) (hs : s.length ≤ 9223372036854775000) (w1 : World) (o1 : Old w w1) => ptext_any ⟨⟨s⟩⟩ w1 (ht.old o1) hs)
  have g4 := Lib.hid (fun s (w1 : World) => read_any s w1)
  have g5 := Lib.hid (fun b (w1 : World) (r : List UInt8 × Int) (h : Rd w1 b r) (hs : r.1.length ≤ 1099511627776) => rlist_any b r w1 h hs)
  have g6 := Lib.hid (fun (v' : Value) (w1 : World) (o1 : Old w w1) (B : Nat) (s1 : Sl B w1 v' (l.map vstr)) => texts_any v' v l l B w.heap.size w1 s1 (hv.below o1) (by unfold maxLen; omega))
  have g7 := Lib.hid (fun b (r : List UInt8 × Int) (w1 : World) (h : Rd w1 b r) (o1 : Old w w1) (hs : r.1.length ≤ 281474976710656) (hb : w.heap.size ≤ b) => rnum_any b r w1 h hs (ht.old o1) (he.old o1) (by omega) (by omega) (by omega))
  have g8 := Lib.hid (fun b (r : List UInt8 × Int) (w1 : World) (h : Rd w1 b r) (hs : r.1.length ≤ 1099511627776) => text_any b r w1 h (by unfold maxLen; omega))
  have g9 := Lib.hid (fun (w1 : World) (o1 : Old w w1) => awake_any w1 (ht.old o1))
  have q1 := fun r => list_app (l := l) r (fun s h => by have := hs s h; omega) (by omega)
  have q2 := fun r => num_app n h0 h1 r
  have Q1 := Lib.hid q1
  have Q2 := Lib.hid q2
  have HS := Lib.hid hs
  have HPB := Lib.hid (show (M.packs l).length ≤ 404000 by omega)
  have HBASE := Lib.hid (show (M.pack (M.packs l) ++ M.pack (Lib.itoa n)).length ≤ 404080 by rw [List.length_append]; omega)
  clear q1 q2 hs hf hE hpb hpl hpi hit
  obtain ⟨p, cap, rfl⟩ := hv.len
  have hlen : (l.map vstr).length = l.length := by simp
  rw [hlen] at hv hF g1 g6 ⊢
  have hb0 : ((⟨⟨M.pack (M.packs l)⟩⟩ : ByteArray).size + (⟨⟨M.pack (Lib.itoa n)⟩⟩ : ByteArray).size) ≤ 404080 := by
    have := HBASE.out; rw [List.length_append] at this; exact this
  have heq : ((⟨⟨M.pack (M.packs l)⟩⟩ : ByteArray) ++ ⟨⟨M.pack (Lib.itoa n)⟩⟩) = ⟨⟨M.pack (M.packs l) ++ M.pack (Lib.itoa n)⟩⟩ := ba_eq (by simp)
  generalize hbase : M.pack (M.packs l) ++ M.pack (Lib.itoa n) = base at *
  have HB := Lib.hid hbase
  have HEQ := Lib.hid heq
  clear hbase heq
  go_enter Tryd.func7, Tryd.ntmps7
  go_wp2_with (first
    | ((with_reducible refine hF.out.mono ?_); rintro e w' ⟨rfl, rfl⟩)
    | ((with_reducible refine g1.out.mono ?_); rintro e w1 ⟨rfl, o1⟩)
    | ((with_reducible refine (g2.out _ o1).mono ?_); rintro e w2 ⟨rfl, o2⟩))
  rw [HEQ.out]
  have o12 := o1.trans o2
  clear o1 o2 g1 g2 hF
  go_loopw [5, 6] (fun s i wr => ∃ k : Nat, k ≤ l.length ∧ i = .int .i64 k ∧ s = vstr (base ++ M.packs (l.take k)) ∧ Old w wr) (fun _ i _ => l.length - (intOf i).toNat)
  case atStart => exact ⟨0, Nat.zero_le _, rfl, by simp [M.packs], o12⟩
  case round =>
    obtain ⟨k, hk, rfl, rfl, ho⟩ := hrel
    by_cases hlt : k < l.length
    · obtain ⟨b, off, rfl, hbB, hc⟩ := hv.at (by intro h; have := congrArg List.length h; simp at this; subst this; simp at hlt)
      have hcell : wr.cell? ⟨b, off + k, none⟩ = some (.string ⟨⟨l[k]⟩⟩) := by
        rw [ho.cell (p := ⟨b, off + k, none⟩) hbB, hc k (by simpa using hlt)]; simp [hlt]
      clear hc
      have hp1 : M.packs (l.take (k + 1)) = M.packs (l.take k) ++ M.pack l[k] := by rw [List.take_succ_eq_append_getElem hlt, M.packs_snoc]
      have hle := M.packs_take l (k + 1)
      rw [hp1, List.length_append] at hle
      have HT := Lib.hid (g3.out l[k] (Nat.le_trans (HS.out l[k] (List.getElem_mem _)) (by decide)) wr ho)
      have HP := Lib.hid hp1
      have hb1 : (⟨⟨base ++ M.packs (l.take k)⟩⟩ : ByteArray).size + (⟨⟨M.pack l[k]⟩⟩ : ByteArray).size ≤ 10000000 := by
        show (base ++ M.packs (l.take k)).length + (M.pack l[k]).length ≤ _
        have := HPB.out; have := HBASE.out
        rw [List.length_append]; omega
      have hcat : ((⟨⟨base ++ M.packs (l.take k)⟩⟩ : ByteArray) ++ ⟨⟨M.pack l[k]⟩⟩) = ⟨⟨base ++ M.packs (l.take (k + 1))⟩⟩ := ba_eq (by rw [HP.out]; simp)
      have HCAT := Lib.hid hcat
      clear hp1 hle hcat
      go_wp2_with ((with_reducible refine HT.out.mono ?_); rintro e w1 ⟨rfl, o1⟩)
      go_roundw
      case rel => exact ⟨k + 1, by omega, by go_num, by rw [HCAT.out], ho.trans o1⟩
      case measure => simp [intOf]; omega
    · obtain rfl : k = l.length := by omega
      rw [List.take_length]
      have hbl : (base ++ M.packs l).length ≤ 808080 := by have := HPB.out; have := HBASE.out; rw [List.length_append]; omega
      have hr0 : Rd (wr.alloc (.cells #[.string ⟨⟨base ++ M.packs l⟩⟩, .int .i64 0] 55)) wr.heap.size (M.pack (M.packs l) ++ (M.pack (Lib.itoa n) ++ M.packs l), 0) := by
        have h := Blk.new wr #[.string ⟨⟨base ++ M.packs l⟩⟩, .int .i64 0] 55
        rw [show (M.pack (M.packs l) ++ (M.pack (Lib.itoa n) ++ M.packs l)) = base ++ M.packs l from by rw [← List.append_assoc, HB.out]]
        exact h
      have hNb : w.heap.size ≤ wr.heap.size := ho.size
      have o3 := ho.trans (Old.alloc wr (.cells #[.string ⟨⟨base ++ M.packs l⟩⟩, .int .i64 0] 55))
      have hlen1 : (M.pack (M.packs l) ++ (M.pack (Lib.itoa n) ++ M.packs l)).length ≤ 808080 := by rw [← List.append_assoc, HB.out]; exact hbl
      have hlen2 : (M.pack (Lib.itoa n) ++ M.packs l).length ≤ 808080 := by rw [List.length_append] at hlen1; omega
      have L1 := Lib.hid hlen1
      have L2 := Lib.hid hlen2
      clear hlen1 hlen2 hbl
      go_wp2_with ((with_reducible refine (g4.out _ _).mono ?_); rintro e w1 ⟨rfl, rfl⟩)
      generalize wr.alloc (.cells #[.string ⟨⟨base ++ M.packs l⟩⟩, .int .i64 0] 55) = w3 at *
      generalize wr.heap.size = N at *
      refine (g5.out N w3 _ hr0 (Nat.le_trans L1.out (by decide))).mono ?_
      rintro e w4 ⟨v', rfl, hslQ, hfr, hr4Q, k4⟩
      rw [Q1.out] at hslQ hr4Q
      have hsl : Sl w4.heap.size w4 v' (l.map vstr) := hslQ
      have hr4 : Rd w4 N (M.pack (Lib.itoa n) ++ M.packs l, 0) := hr4Q
      clear hslQ hr4Q
      have o4 : Old w w4 := Below.trans o3 (k4.below o3.size (fun k hk => by omega))
      obtain ⟨p', cap', rfl⟩ := hsl.len
      have hsl0 := hsl
      rw [hlen] at hsl0
      have HT := Lib.hid (g6.out _ w4 o4 _ hsl0)
      simp only [decide_true] at HT
      simp only [hlen]
      clear hsl hfr hr0 hsl0
      go_wp2_with ((with_reducible refine HT.out.mono ?_); rintro e w5 ⟨rfl, n5, rfl⟩)
      refine (g7.out N _ _ (Blk.drewN hr4 n5) (o4.trans (Old.drewN _ n5)) (Nat.le_trans L2.out (by decide)) hNb).mono ?_
      rintro e w6 ⟨rfl, hr6, k6⟩
      rw [Q2.out] at hr6
      have hr6' : Rd w6 N (M.packs l, 0) := hr6
      simp only [Q2.out]
      have o6 : Old w w6 := Below.trans (o4.trans (Old.drewN _ n5)) (k6.below (o4.trans (Old.drewN _ n5)).size (fun k hk => by omega))
      clear o3 o4 hr4 k4 k6 HT g3 g4 g5 g6 g7 Q1 Q2 hb0 HBASE HEQ L1 L2 ho
      go_wp2
      go_loopw [8] (fun i wr => ∃ k : Nat, k ≤ l.length ∧ i = .int .i64 k ∧ Rd wr N (M.packs (l.drop k), 0) ∧ Old w wr) (fun i _ => l.length - (intOf i).toNat)
      case atStart => exact ⟨0, Nat.zero_le _, rfl, by simpa using hr6', o6⟩
      case round =>
        obtain ⟨k, hk, rfl, hr, ho⟩ := hrel
        by_cases hlt : k < l.length
        · obtain ⟨b, off, rfl, hbB, hc⟩ := hv.at (by intro h; have := congrArg List.length h; simp at this; subst this; simp at hlt)
          have hcell : w.cell? ⟨b, off + k, none⟩ = some (.string ⟨⟨l[k]⟩⟩) := by rw [hc k (by simpa using hlt)]; simp [hlt]
          clear hc
          have hdl : (M.packs (l.drop k)).length ≤ 404000 := by
            have h1 : (M.packs (l.take k ++ l.drop k)).length = (M.packs (l.take k)).length + (M.packs (l.drop k)).length := by unfold M.packs; rw [List.map_append, List.flatten_append, List.length_append]
            rw [List.take_append_drop] at h1
            have := HPB.out; omega
          have hnx : nextS (M.packs (l.drop k), 0) = (l[k], true, (M.packs (l.drop (k + 1)), 0)) := by
            rw [packs_drop hlt]; exact next_app _ _ (by have := HS.out l[k] (List.getElem_mem _); omega)
          have HT := Lib.hid (fun (w1 : World) (h1 : Rd w1 N (M.packs (l.drop k), 0)) => g8.out N _ w1 h1 (Nat.le_trans hdl (by decide)))
          rw [hnx] at HT
          have hi0 : (0 : Int) ≤ (k : Int) := Int.natCast_nonneg _
          have hi1 : (k : Int) < (l.length : Int) := by omega
          have hcr : wr.cell? ⟨b, off + k, none⟩ = some (.string ⟨⟨l[k]⟩⟩) := (ho.cell (p := ⟨b, off + k, none⟩) hbB).trans hcell
          clear hdl hnx hcell
          generalize l[k] = x at *
          have hrd : Rd (World.drew wr) N (M.packs (l.drop k), 0) := hr
          go_wp2
          go_region_with (first
            | ((with_reducible refine (HT.out _ hrd).mono ?_); rintro e w7 ⟨rfl, hr7, k7⟩; have hcell7 := Keep.cellAt k7 (show (World.drew wr).cell? ⟨b, off + k, none⟩ = _ from hcr) (by show ¬ (b = N); omega)))
          all_goals
            have ho7 : Old w w7 := Below.trans (Below.drew ho) (k7.below (show w.heap.size ≤ (World.drew wr).heap.size from ho.size) (fun j hj => by omega))
            go_wp2
            go_roundw
            case rel => exact ⟨k + 1, by omega, by go_num, hr7, ho7⟩
            case measure => simp [intOf]; omega
        · obtain rfl : k = l.length := by omega
          have hrE : Rd wr N ([], 0) := by
            have := hr
            rw [List.drop_length] at this
            exact this
          have HL := Lib.hid (left_any N ⟨⟨[]⟩⟩ wr (Blk.cellN hrE 0 rfl))
          have HE := Lib.hid (end_any N ([], 0) wr hrE)
          have HA := Lib.hid (g9.out wr ho)
          clear hr hrE
          go_wp2_with (first
            | ((with_reducible refine HL.out.mono ?_); rintro e w7 ⟨rfl, rfl⟩)
            | ((with_reducible refine HE.out.mono ?_); rintro e w7 ⟨rfl, rfl⟩; simp only [endOf])
            | ((with_reducible refine HA.out.mono ?_); rintro e w8 ⟨rfl, o8⟩))
          go_ret
          exact ⟨rfl, ho.trans o8⟩

theorem packBack_walk (w : World) (v : Value) (l : List (List UInt8)) (hv : Sl w.heap.size w v (l.map vstr)) (hl : l.length ≤ maxLen) (_hs : ∀ s, s ∈ l → s.length ≤ maxLen) (n : Int) (h0 : -9223372036854775808 ≤ n) (h1 : n ≤ 9223372036854775807) (ht : Tab w) (he : Errs w) :
    Calls Tryd.prog 7 #[v, .int .i64 n] w fun e w' => e = .returned (.bool true) ∧ Old w w' := by
  cases hf : fewB l with
  | true => exact packBack_few w v l n hv (few_true' hf).1 (few_true' hf).2 hf h0 h1 ht he ⟨var_lt tab_num ht, var_lt errs_syntax he.1.choose_spec.choose_spec, var_lt errs_range he.2.choose_spec.choose_spec⟩
  | false =>
    have hF := Lib.hid (few_any v l w.heap.size w hv hl)
    rw [hf] at hF
    clear hf
    go_enter Tryd.func7, Tryd.ntmps7
    go_wp2_with (first
      | ((with_reducible refine hF.out.mono ?_); rintro e w' ⟨rfl, rfl⟩)
      | ((with_reducible refine (awake_any _ ht).mono ?_); rintro e w1 ⟨rfl, o1⟩))
    go_ret
    exact ⟨rfl, o1⟩

theorem packBack_open {H : Type} {enc : TypeId × Value → H} {Q : Ending → World → Prop} (W : World) (base : Nat) (args : Array Value) (ds : List (DataW H)) (p : List MemPlace) (hL : laidMetH Tryd.prog Rows.packBackRow.laid W)
    (hval : ∀ (j : Nat) t v, (#[27, 3] : Array TypeId)[j]? = some t → args[j]? = some v → Value.okWide Tryd.prog W .any base t v)
    (hA : DataW.TrodAll enc Tryd.prog W 0 (fun _ => true) true [27, 3] args.toList ds p) (fin : ds.length = 2 → ∀ (e : Ending) (W' : World), e = .returned (.bool true) ∧ Old W W' → Q e W') :
    Calls Tryd.prog 7 args W Q := by
  rw [MakeChecks.laidMetH_plain _ _ _ (by kernel_rfl)] at hL
  have ft := tab_of hL (by simp [Rows.packBackRow])
  have fe := errs_of hL (by simp [Rows.packBackRow]) (by simp [Rows.packBackRow])
  obtain ⟨v0, v1, d0, d1, p0, p1, rfl, rfl, _, hd0, hd1⟩ := trodAll_two hA
  obtain ⟨l0, hv0, hl0, hs0⟩ := open_texts Tryd.underlying27 (hval 0 27 v0 rfl rfl) hd0
  obtain ⟨n1, rfl, rfl, rfl, hw1⟩ := open_int Tryd.underlying3 (hval 1 3 v1 rfl rfl) hd1
  have hb1 := bound_int hw1
  exact (packBack_walk W v0 l0 hv0 hl0 hs0 n1 hb1.1 hb1.2 ft fe).mono (fin rfl)
theorem packBack_params : Tryd.f7.params = #[27, 3] := rfl
theorem packBack_door (os : Os) (args : Array Value) : laidMetH Tryd.prog Rows.packBackRow.laid ((World.doorLaid Tryd.prog 400 os).forCall (fun _ _ => 0) ⟨#[], args, []⟩).memory :=
  laidMetH_of_parts3 (fuel := 8) (laidMet_of_run' 8 (by kernel_rfl) (by kernel_rfl)) (by kernel_rfl) (by kernel_rfl)
theorem packBack_fn {H : Type} (ds : List (DataW H)) (h : ds.length = 2) : Rows.packBackSpec.fn H ds = { results := [.lit (.bool true)], args := ds } := by
  match ds, h with
  | [_, _], _ => rfl
theorem packBack_reads : ∀ t ∈ Tryd.f7.params.toList, Tryd.prog.readableRec t = true ∧ t < Tryd.prog.types.size := by
  rw [packBack_params]; intro t ht; simp at ht; rcases ht with rfl | rfl <;> exact ⟨by kernel_rfl, of_decide_eq_true (by kernel_rfl)⟩
set_option maxRecDepth 100000 in
theorem packBack_lifted (os : Os) (started : os.Started) (H : Type) (enc : TypeId × Value → H) :
    ReturnsInHanded {} Tryd.checked os 7 .any (fun w args => (Rows.packBackSpec.pre enc Tryd.prog Tryd.f7 [] false w args ∧ laidMetH Tryd.prog Rows.packBackRow.laid w) ∧ sizedMet enc Tryd.prog Tryd.f7 (OpenSpec.ofChange Rows.packBackSpec) false w args)
      (Rows.packBackSpec.post enc Tryd.prog Tryd.f7 false true false false) := by
  refine returnsInHanded_of_change_and (C := Tryd.checked) (X := fun w _ => laidMetH Tryd.prog Rows.packBackRow.laid w) (fun _ _ _ hh h => h.of_heap hh) own started (by kernel_rfl) Tryd.func7
    (ChangeSpec.witness_shaped (enc := enc) (C := Tryd.checked) (os := os) (X := fun w _ => laidMetH Tryd.prog Rows.packBackRow.laid w) false (World.doorLaid Tryd.prog 400 os) #[.slice none 0 0, .int .i64 0] 8 rfl (World.shaped_of_RefB (by kernel_rfl) (by kernel_rfl)) (by kernel_rfl) (by kernel_rfl) (by kernel_rfl) (packBack_door os _)) ?_
  intro W base args ds gs before hval0 hW _ hreach hL _
  have hval : ∀ (j : Nat) t v, Tryd.f7.params[j]? = some t → args[j]? = some v → Value.okWide Tryd.prog W .any base t v := hval0
  have hW' := hW
  obtain ⟨p, q, hA0, hV, hbef, hfz, hnd⟩ := hW
  have hA : DataW.TrodAll enc Tryd.prog W 0 (fun _ => true) true Tryd.f7.params.toList args.toList ds p := hA0
  have hgs : gs = [] := by cases gs with | nil => rfl | cons g r => exact absurd hV (by intro h; cases h)
  subst hgs
  have fin : ds.length = 2 → ∀ (e : Ending) (W' : World), e = .returned (.bool true) ∧ Old W W' → ∃ v, e = .returned v ∧ Rows.packBackSpec.post enc Tryd.prog Tryd.f7 false true false false W args v W' := by
    rintro hd e W' ⟨rfl, hb⟩
    exact ⟨_, rfl, law_post hW' rfl packBack_reads rfl (by rw [List.append_nil]; exact packBack_fn ds hd) hb⟩
  rw [packBack_params] at hA hval
  exact packBack_open W base args ds p hL hval hA fin

theorem packBack_holds : Rows.PackBackSaid :=
  OpenClaim.holds_of_wide 7 Tryd.f7 rfl rfl rfl rfl rfl rfl rfl ⟨rfl, rfl, rfl, rfl, rfl⟩ rfl rfl rfl rfl rfl (by kernel_rfl) Tryd.func7 (by kernel_rfl)
    (of_decide_eq_true (by kernel_rfl)) (by unfold Func.isWrapper; first | (rw [if_pos (by decide +kernel)]; kernel_rfl) | (rw [if_neg (by decide +kernel)]; exact ⟨rfl, rfl⟩))
    (fun os started H enc _ => packBack_lifted os started H enc)
theorem packBack_card : Rows.PackBackCardSaid :=
  Claim7.holds_tied_plain_at .later [] Rows.packBackCard.laidKinds true Rows.packBackCard.stood.harness true
    packBack_holds (fun _ h => by cases h) (by kernel_rfl) (fun _ h => by cases h) packBack_row_tie rfl ⟨rfl, rfl⟩ (by kernel_rfl) rfl
    (fun f fn hf hfn => by
      obtain rfl : f = 7 := Option.some.inj ((show Tryd.prog.funcNamed Rows.packBackRow.func = some 7 by kernel_rfl).symm.trans hf) |>.symm
      obtain rfl : fn = Tryd.f7 := (Option.some.inj (Tryd.func7.symm.trans hfn)).symm
      exact ⟨by kernel_rfl, fun j t ht => by
        rw [packBack_params] at ht
        have hm : t ∈ [27, 3] := by simpa using Array.mem_of_getElem? ht
        have hall : ([27, 3].all fun u => !Tryd.prog.wantsStandIn u) = true := by kernel_rfl
        exact (show Tryd.prog.wantsStandIn t = false by simpa using List.all_eq_true.1 hall t hm)⟩)
    (by kernel_rfl)
#print axioms packBack_card
end Go.Proofs.YtflkinglgnkchaaDoor
