/- From the listed variables to what the walks ask of them. -/
import Derived.Test.YtflkinglgnkchaaDoorLift
import Derived.Test.YtflkinglgnkchaaDoorErr
namespace Go.Proofs.YtflkinglgnkchaaDoor
open Go.RowKit

theorem laid_mem {P : Program} {W : World} {n : String} {d : DataW Unit} : ∀ {l : List (String × DataW Unit)} {ps : List MemPlace}, DataW.LaidVars P W l ps → (n, d) ∈ l →
    ∃ g t cs fuel p, P.globalNamed n = some g ∧ (P.globals[g]?).map (·.type) = some t ∧ W.var? P n = some cs ∧ DataW.trod (fun _ => ()) P W 0 (fun _ => true) false fuel t cs.toList = some (d, p)
  | [], _, _, hm => by cases hm
  | (n', d') :: r, ps, h, hm => by
      obtain ⟨g, t, cs, fuel, p, q, h1, h2, h3, h4, h5, _⟩ := h
      rcases List.mem_cons.1 hm with e | hm
      · injection e with e1 e2; subst e1; subst e2; exact ⟨g, t, cs, fuel, p, h1, h2, h3, h4⟩
      · exact laid_mem h5 hm

theorem tab_type : (Tryd.prog.globals[2]?).map (·.type) = some 91 := by kernel_rfl
theorem tab_data : Rows.laid_internal_strconv_uint64pow10 (H := Unit) = Lib.tabData .u64 Lib.pow10Tab := by
  unfold Rows.laid_internal_strconv_uint64pow10 Lib.tabData Lib.pow10Tab
  simp [List.range_succ]
theorem tab_of {l : List (String × DataW Unit)} {W : World} (h : laidMet Tryd.prog l W) (hm : ("internal/strconv.uint64pow10", Rows.laid_internal_strconv_uint64pow10) ∈ l) : Tab W := by
  obtain ⟨ps, hl, _⟩ := h
  obtain ⟨g, t, cs, fuel, p, hg, ht, hv, hd⟩ := laid_mem hl hm
  obtain rfl := Option.some.inj (tab_num.symm.trans hg)
  obtain rfl := Option.some.inj (tab_type.symm.trans ht)
  rw [tab_data] at hd
  show W.var? _ _ = _
  rw [hv, ← Lib.cells_of_tab Tryd.underlying91 Tryd.underlying78 (by kernel_rfl) (by kernel_rfl) hd]

theorem iface_of {P : Program} {W : World} {fuel : Nat} {t : TypeId} {ms : Array (String × TypeId)} {cs : List Value} {nm : String} {d : DataW Unit} {p : List MemPlace} (ht : P.underlying t = some (.interface ms))
    (h : DataW.trod (fun _ => ()) P W 0 (fun _ => true) false fuel t cs = some (.iface nm d, p)) : ∃ u v, cs = [.iface u v] := by
  cases fuel with
  | zero => simp [DataW.trod] at h
  | succ fuel =>
    unfold DataW.trod at h
    rw [ht] at h
    split at h <;> simp_all
theorem errv_type1 : (Tryd.prog.globals[0]?).map (·.type) = some 51 := by kernel_rfl
theorem errv_type2 : (Tryd.prog.globals[1]?).map (·.type) = some 51 := by kernel_rfl
theorem errv_of {l : List (String × DataW Unit)} {W : World} {n : String} {g : Nat} {nm : String} {d : DataW Unit} (h : laidMet Tryd.prog l W) (hg : Tryd.prog.globalNamed n = some g) (ht : (Tryd.prog.globals[g]?).map (·.type) = some 51) (hm : (n, DataW.iface nm d) ∈ l) :
    ∃ tp p, W.var? Tryd.prog n = some #[.iface tp p] := by
  obtain ⟨ps, hl, _⟩ := h
  obtain ⟨g', t, cs, fuel, p, hg', ht', hv, hd⟩ := laid_mem hl hm
  obtain rfl := Option.some.inj (hg.symm.trans hg')
  obtain rfl := Option.some.inj (ht.symm.trans ht')
  obtain ⟨u, v, hc⟩ := iface_of Tryd.underlying51 hd
  obtain ⟨c⟩ := cs
  simp only at hc
  subst hc
  exact ⟨u, v, hv⟩
theorem errs_of {l : List (String × DataW Unit)} {W : World} (h : laidMet Tryd.prog l W) (h1 : ("strconv.ErrSyntax", Rows.laid_strconv_ErrSyntax) ∈ l) (h2 : ("strconv.ErrRange", Rows.laid_strconv_ErrRange) ∈ l) : Errs W :=
  ⟨errv_of h errs_syntax errv_type1 h1, errv_of h errs_range errv_type2 h2⟩
end Go.Proofs.YtflkinglgnkchaaDoor
