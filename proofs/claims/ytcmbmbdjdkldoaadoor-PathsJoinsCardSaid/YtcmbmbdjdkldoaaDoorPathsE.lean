/- The program's tests of kin and of one file, and what stands at a path. -/
import Derived.Test.YtcmbmbdjdkldoaaDoorPathsD
namespace Go.Proofs.YtcmbmbdjdkldoaaDoor
open Go.RowKit

theorem enter_kin : ∀ args w, (callFunc 53 args).run Tryd.prog w = .ok (.enter 53 args) w := enters_of Tryd.func53 (by kernel_rfl) rfl
theorem enter_find : ∀ args w, (callFunc 55 args).run Tryd.prog w = .ok (.enter 55 args) w := enters_of Tryd.func55 (by kernel_rfl) rfl
theorem enter_without : ∀ args w, (callFunc 46 args).run Tryd.prog w = .ok (.enter 46 args) w := enters_of Tryd.func46 (by kernel_rfl) rfl
theorem enter_under : ∀ args w, (callFunc 48 args).run Tryd.prog w = .ok (.enter 48 args) w := enters_of Tryd.func48 (by kernel_rfl) rfl
theorem enter_put : ∀ args w, (callFunc 57 args).run Tryd.prog w = .ok (.enter 57 args) w := enters_of Tryd.func57 (by kernel_rfl) rfl

theorem containsFunc_any (g : Nat) (lb : Array Value) (eg : ∀ args w, (callFunc g args).run Tryd.prog w = .ok (.enter g args) w) (p : M.Fi → Bool) (ok : M.Fi → Prop) (v : Value) (fs : List M.Fi) (w : World) (h : Fl w v fs) (hok : ∀ f ∈ fs, ok f)
    (hp : Tests g lb p ok w) (hlen : fs.length ≤ maxLen) :
    Calls Tryd.prog 52 #[v, .func (.func g) #[] lb] w fun e w' => e = .returned (.bool (fs.any p)) ∧ Old w w' := by
  have HI := Lib.hid (indexFunc_any g lb eg p ok v fs w h hok hp hlen)
  have HA := Lib.hid (idx_any p fs)
  clear h hp hok eg
  generalize idx p fs = r at HI HA
  go_enter Tryd.func52, Tryd.ntmps52
  go_wp2_with ((with_reducible refine HI.out.mono ?_); rintro e w1 ⟨rfl, ho1⟩)
  go_ret
  exact ⟨ret_bool HA.out, ho1⟩

/-- Of files that came in: none is too great. -/
def Alls (fs : List M.Fi) : Prop := fs.length ≤ 1099511627776 ∧ ∀ f ∈ fs, Small f

theorem hasKin_any (v : Value) (fs : List M.Fi) (s : List UInt8) (w : World) (h : Fl w v fs) (hf : Alls fs) (hs : s.length ≤ 1099511627776) :
    Calls Tryd.prog 42 #[v, S s] w fun e w' => e = .returned (.bool (M.kin fs s)) ∧ Old w w' := by
  have hb : (w.alloc (.cells #[S s] 9)).cell? ⟨w.heap.size, 0, none⟩ = some (S s) := (Blk.new w #[S s] 9).cellN 0 rfl
  have HC := Lib.hid (containsFunc_any 53 #[.pointer (some ⟨w.heap.size, 0, none⟩)] enter_kin (fun g => M.below s g.1 || M.below g.1 s) Small v fs _ (h.old (Old.alloc w (.cells #[S s] 9))) hf.2 (hasKin1 s hs w.heap.size _ hb) (by have := hf.1; unfold maxLen; omega))
  clear hb h
  go_enter Tryd.func42, Tryd.ntmps42
  go_wp2_with ((with_reducible refine HC.out.mono ?_); rintro e w1 ⟨rfl, ho1⟩)
  go_ret
  exact ⟨rfl, (Old.alloc w _).trans ho1⟩

theorem find_any (v : Value) (fs : List M.Fi) (s : List UInt8) (w : World) (h : Fl w v fs) (hlen : fs.length ≤ maxLen) :
    Calls Tryd.prog 44 #[v, S s] w fun e w' => e = .returned (.int .i64 (idx (fun g => g.1 == s) fs)) ∧ Old w w' := by
  have hb : (w.alloc (.cells #[S s] 9)).cell? ⟨w.heap.size, 0, none⟩ = some (S s) := (Blk.new w #[S s] 9).cellN 0 rfl
  have HC := Lib.hid (indexFunc_any 55 #[.pointer (some ⟨w.heap.size, 0, none⟩)] enter_find (fun g => g.1 == s) (fun _ => True) v fs _ (h.old (Old.alloc w (.cells #[S s] 9))) (fun _ _ => trivial) (find1 s w.heap.size _ hb) hlen)
  clear hb h
  go_enter Tryd.func44, Tryd.ntmps44
  go_wp2_with ((with_reducible refine HC.out.mono ?_); rintro e w1 ⟨rfl, ho1⟩)
  go_ret
  exact ⟨rfl, (Old.alloc w _).trans ho1⟩

theorem checkFile_any (f : M.Fi) (h1 : f.1.length ≤ maxLen) (h2 : f.2.length ≤ maxLen) (w : World) (hm : Mx w) :
    Calls Tryd.prog 41 #[fv f] w fun e w' => e = .returned (.int .i64 (M.chk1 f)) ∧ Old w w' := by
  obtain ⟨fp, fd⟩ := f
  simp only at h1 h2
  have HP := Lib.hid (path_any fp h1 _ (hm.old (Old.alloc w (.cells #[S fp, S fd] 36))))
  have hb1 : (w.alloc (.cells #[S fp, S fd] 36)).cell? ⟨w.heap.size, 1, none⟩ = some (S fd) := (Blk.new w #[S fp, S fd] 36).cellN 1 rfl
  have hb := World.block_lt_of_cell? _ _ hb1
  have HK := Lib.hid (show M.chk1 (fp, fd) = if M.path fp ≠ 0 then 13 else if fd.length > 2048 then 15 else 0 from rfl)
  have hpr : M.path fp = 0 ∨ M.path fp = 13 := by unfold M.path; split <;> simp
  have hsz := size_mk fd
  unfold maxLen at h2
  clear h1 hm
  show Calls Tryd.prog 41 #[.agg #[.string ⟨⟨fp⟩⟩, .string ⟨⟨fd⟩⟩]] w _
  rcases hpr with hpr | hpr
  · rw [hpr] at HP HK
    go_enter Tryd.func41, Tryd.ntmps41
    go_wp2_with ((with_reducible refine HP.out.mono ?_); rintro e w1 ⟨rfl, ho1⟩; have hc1 : w1.cell? ⟨w.heap.size, 1, none⟩ = some (S fd) := (ho1.cell (p := ⟨w.heap.size, 1, none⟩) hb).trans hb1)
    · go_ret
      exact ⟨ret_int (by rw [HK.out, if_neg (by decide), if_pos (by omega)]), (Old.alloc w _).trans ho1⟩
    · go_ret
      exact ⟨ret_int (by rw [HK.out, if_neg (by decide), if_neg (by omega)]), (Old.alloc w _).trans ho1⟩
  · rw [hpr] at HP HK
    go_enter Tryd.func41, Tryd.ntmps41
    go_wp2_with ((with_reducible refine HP.out.mono ?_); rintro e w1 ⟨rfl, ho1⟩)
    go_ret
    exact ⟨ret_int (by rw [HK.out]; rfl), (Old.alloc w _).trans ho1⟩

theorem get_hit {fs : List M.Fi} {s : List UInt8} {k : Nat} (hk : k < fs.length) (h : idx (fun g => g.1 == s) fs = k) : M.get fs s = (fs[k].2, true) := by
  rcases idx_cases (fun g => g.1 == s) fs with ⟨h1, _⟩ | ⟨j, hj, h1, h2, h3⟩
  · rw [h] at h1; omega
  · obtain rfl : j = k := by rw [h] at h1; omega
    unfold M.get
    have : fs.find? (fun f => f.1 == s) = some fs[j] := by
      rw [List.find?_eq_some_iff_getElem]
      exact ⟨h2, j, hj, rfl, fun i hi => by rw [h3 i (by omega) hi]; rfl⟩
    rw [this]
theorem get_miss {fs : List M.Fi} {s : List UInt8} (h : idx (fun g => g.1 == s) fs = -1) : M.get fs s = ([], false) := by
  rcases idx_cases (fun g => g.1 == s) fs with ⟨_, h1⟩ | ⟨j, hj, h1, _⟩
  · unfold M.get
    have : fs.find? (fun f => f.1 == s) = none := List.find?_eq_none.2 fun x hx => by rw [h1 x hx]; simp
    rw [this]
  · rw [h] at h1; omega

theorem get_any (v : Value) (fs : List M.Fi) (s : List UInt8) (w : World) (h : Fl w v fs) (hlen : fs.length ≤ maxLen) :
    Calls Tryd.prog 25 #[v, S s] w fun e w' => e = .returned (.tuple #[S (M.get fs s).1, .bool (M.get fs s).2]) ∧ Old w w' := by
  have HF := Lib.hid (find_any v fs s w h hlen)
  have H := Lib.hid h
  obtain ⟨p, cap, rfl⟩ := h.len
  unfold maxLen at hlen
  clear h
  rcases idx_cases (fun g => g.1 == s) fs with ⟨h1, _⟩ | ⟨k, hk, h1, _, _⟩
  · rw [get_miss h1]
    rw [h1] at HF
    clear h1
    go_enter Tryd.func25, Tryd.ntmps25
    go_wp2_with ((with_reducible refine HF.out.mono ?_); rintro e w1 ⟨rfl, ho1⟩)
    go_ret2
    exact ⟨rfl, ho1⟩
  · rw [get_hit hk h1]
    rw [h1] at HF
    clear h1
    have hc := fun (w1 : World) (ho : Old w w1) => ((H.out.old ho).at (by intro h; rw [h] at hk; exact absurd hk (Nat.not_lt_zero _)))
    have hne : ¬ ((k : Int) < 0) := by omega
    go_enter Tryd.func25, Tryd.ntmps25
    go_wp2_with ((with_reducible refine HF.out.mono ?_); rintro e w1 ⟨rfl, ho1⟩; obtain ⟨b, off, rfl, hb, hx⟩ := hc w1 ho1; have hx1 := (hx k hk).2; clear hx hc)
    go_ret2
    exact ⟨rfl, ho1⟩
end Go.Proofs.YtcmbmbdjdkldoaaDoor
