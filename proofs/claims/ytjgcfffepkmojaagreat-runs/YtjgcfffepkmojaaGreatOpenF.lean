import Derived.Test.YtjgcfffepkmojaaGreatOpen
import Derived.SizedLaws
namespace Go.Proofs.YtjgcfffepkmojaaGreat
open Go.ChangeShapes Go.WideShapes Go.ChangeAt Go.RowKit
set_option linter.unusedVariables false

/-! ### A script that came in, of whatever length: by what its parts weigh -/
section
variable {H : Type} {enc : TypeId × Value → H} {W : World}
def Wt (t : TypeId) (d : DataW H) : Prop := (d.weights Tryz.prog t).all (· ≤ reachBytes) = true
theorem bytes_insn : Tryz.prog.bytesOf 29 = 8 := by kernel_rfl
theorem bytes_op : Tryz.prog.bytesOf 41 = 120 := by kernel_rfl
theorem wt_all {e : TypeId} {l : List (DataW H)} (h : (DataW.weightsAll Tryz.prog e l).all (· ≤ reachBytes) = true) {d : DataW H} (hd : d ∈ l) : Wt e d := by
  induction l with
  | nil => cases hd
  | cons x l ih =>
    simp only [DataW.weightsAll, List.all_append, Bool.and_eq_true] at h
    rcases List.mem_cons.1 hd with rfl | hd
    · exact h.1
    · exact ih h.2 hd
theorem wt_slice {t e : TypeId} (hu : Tryz.prog.underlying t = some (.slice e)) {elems spare : List (DataW H)} (h : Wt t (.slice elems spare)) :
    (elems.length + spare.length) * Tryz.prog.bytesOf e ≤ reachBytes ∧ ∀ d ∈ elems, Wt e d := by
  unfold Wt at h
  simp only [DataW.weights, hu, List.all_cons, List.all_append, Bool.and_eq_true, decide_eq_true_eq] at h
  exact ⟨h.1, fun d hd => wt_all h.2.1 hd⟩
/-- How long a list is that came in. -/
theorem wt_len {t e : TypeId} (hu : Tryz.prog.underlying t = some (.slice e)) {fuel : Nat} {a0 : Option Addr} {len0 cap0 : Nat} {x : DataW H × List MemPlace} (h : Rd enc W fuel t [.slice a0 len0 cap0] x) (hz : Wt t x.1) : len0 * Tryz.prog.bytesOf e ≤ reachBytes := by
  rcases Go.Deep.open_slice hu h with ⟨hc, _⟩ | ⟨a, len, cap', m, n, D, Pl, hc, _, hlc, _, hm, hx, _⟩
  · simp only [List.cons.injEq, and_true, Value.slice.injEq] at hc
    obtain ⟨_, rfl, _⟩ := hc
    rw [Nat.zero_mul]; exact Nat.zero_le _
  · simp only [List.cons.injEq, and_true, Value.slice.injEq] at hc
    obtain ⟨_, rfl, _⟩ := hc
    rw [hx] at hz
    have := (wt_slice hu hz).1
    simp only [List.length_map, List.length_range] at this
    exact Nat.le_trans (Nat.mul_le_mul_right _ (Nat.le_add_right _ _)) this
theorem is_slice {t e : TypeId} (hu : Tryz.prog.underlying t = some (.slice e)) {fuel : Nat} {v : Value} {x : DataW H × List MemPlace} (h : Rd enc W fuel t [v] x) : ∃ a n c, v = .slice a n c := by
  rcases Go.Deep.open_slice hu h with ⟨hc, _⟩ | ⟨a, len, cap', m, n, D, Pl, hc, _⟩
  · simp only [List.cons.injEq, and_true] at hc
    exact ⟨_, _, _, hc⟩
  · simp only [List.cons.injEq, and_true] at hc
    exact ⟨_, _, _, hc⟩
theorem reach_is : reachBytes = 140737488351232 := rfl
/-- A step that came in. -/
theorem read_opF {fuel : Nat} {cs : List Value} {x : DataW H × List MemPlace} (h : Rd enc W fuel 41 cs x) (hb : Wt 41 x.1) : ∃ o : OpR, cs = o.cs ∧ o.okP W W.heap.size := by
  obtain ⟨y0, y1, y2, y3, y4, y5, n, hx, hl, h0, h1, h2, h3, h4, h5⟩ := trod_struct6 Tryz.underlying41 h
  rw [cells_op] at hl
  rw [hx] at hb
  unfold Wt at hb
  simp only [DataW.weights, Tryz.underlying41, List.map, DataW.weightsEach, List.all_append, Bool.and_eq_true] at hb
  obtain ⟨c0, c1, c2, c3, c4, c5, c6, c7, c8, rfl⟩ := list9 hl
  · simp only [cells_int, cells_insns, cells_string, cells_policy, cells_strings, List.drop, List.take] at h0 h1 h2 h3 h4 h5
    obtain ⟨k, e0, _, _⟩ := DataW.trod_int Tryz.underlying3 h0
    obtain ⟨N, e1, _, wN⟩ := DataW.trod_int Tryz.underlying3 h1
    obtain ⟨ao, cap, l, e2, hv, hvB, hz, hl', hok⟩ := read_insns (K := Rows.uptoBulk y2.1) h2 (Nat.le_refl _)
    obtain ⟨s, e3, e3', _⟩ := DataW.trod_string Tryz.underlying9 h3
    obtain ⟨z0, z1, z2, z3, n4, hz4, _, g0, g1, g2, g3⟩ := Go.Joins.trod_struct4 Tryz.underlying38 h4
    simp only [cells_u32, cells_rules, List.drop, List.take] at g0 g1 g2 g3
    obtain ⟨q0, i0, _, j0⟩ := DataW.trod_int Tryz.underlying27 g0
    obtain ⟨a1, n1, c1', i1⟩ := is_slice Tryz.underlying36 g1
    obtain ⟨q2, i2, _, j2⟩ := DataW.trod_int Tryz.underlying27 g2
    obtain ⟨q3, i3, _, j3⟩ := DataW.trod_int Tryz.underlying27 g3
    obtain ⟨a2, n2, c2', i5⟩ := is_slice Tryz.underlying39 h5
    simp only [List.cons.injEq, and_true] at e0 e1 e3 i0 i2 i3
    have hs : s.size ≤ 140737488351232 := by
      have h3' : Wt 9 y3.1 := by unfold Wt; simp [hb]
      rw [e3'] at h3'
      unfold Wt at h3'
      simp only [DataW.weights, List.all_cons, List.all_nil, Bool.and_true, reach_is] at h3'
      have h5 := of_decide_eq_true h3'
      have : s.data.toList.length = s.size := by simp
      omega
    have hll : l.length ≤ 17592186043904 := by
      have h2' : Wt 30 y2.1 := by unfold Wt; simp [hb]
      rw [e2] at h2
      have := wt_len Tryz.underlying30 h2 h2'
      rw [bytes_insn, reach_is] at this
      omega
    subst e0 e1 e2 e3 i0 i1 i2 i3 i5
    exact ⟨⟨k, N, ao, cap, l, s, q0, a1, n1, c1', q2, q3, a2, n2, c2'⟩, rfl, hv, hvB, hz, hll, hok, hs⟩
/-- The script that came in. -/
theorem read_opsF {fuel : Nat} {v : Value} {x : DataW H × List MemPlace} (h : Rd enc W fuel 22 [v] x) (hb : Wt 22 x.1) :
    ∃ (so : Option Addr) (cap : Nat) (ops : List OpR), v = .slice so ops.length cap ∧ View W so (ocs ops) ∧ ops.length ≤ 1172812402926 ∧ ∀ o ∈ ops, o.okP W W.heap.size := by
  rcases Go.Deep.open_slice Tryz.underlying22 h with ⟨hc, _⟩ | ⟨a, len, cap, m, n, D, Pl, hc, _, hlc, _, hm, hxe, hx⟩
  · simp only [List.cons.injEq, and_true] at hc
    exact ⟨none, 0, [], hc, .inl rfl, Nat.zero_le _, fun x hx => (by cases hx)⟩
  · simp only [List.cons.injEq, and_true] at hc
    have hlm : len ≤ m := by rw [hm]; simpa using hlc
    have hK : len ≤ 1172812402926 := by
      have h' := h
      rw [hc] at h'
      have := wt_len Tryz.underlying22 h' hb
      rw [bytes_op, reach_is] at this
      omega
    rw [hxe] at hb
    have hel := (wt_slice Tryz.underlying22 hb).2
    obtain ⟨f, hf⟩ := @Go.Deep.choose_lt OpR ⟨zOp⟩ len (fun i y => W.cells? 0 (a.add (i * 9)) 9 = some y.cs ∧ y.okP W W.heap.size) (fun i hi => by
      obtain ⟨cs', h1, h2'⟩ := hx i (by omega)
      rw [cells_op] at h1
      obtain ⟨y, rfl, hy⟩ := read_opF h2' (hel _ (List.mem_map.2 ⟨i, List.mem_range.2 hi, rfl⟩))
      exact ⟨y, h1, hy⟩)
    have hlen : ((List.range len).map f).length = len := by simp
    refine ⟨some a, cap, (List.range len).map f, by rw [hlen]; exact hc, ?_, by rw [hlen]; omega, ?_⟩
    · by_cases h0 : len = 0
      · subst h0; exact .inl rfl
      · obtain ⟨ha, hlt, hs⟩ := seg_rows (W := W) (a := a) (n := len) (s := 9) (f := fun i => (f i).cs) (by decide) (by omega) (fun i _ => rfl) (fun i hi j v hj => (cells_at (hf i hi).1).2 j v hj)
        refine .inr ⟨a.block, a.off, by rw [← ha], fun j v hj => ?_⟩
        have hj9 : j < len * 9 := by have := (List.getElem?_eq_some_iff.1 hj).1; rw [ocs_len, hlen] at this; exact this
        have hg := ocs_get ((List.range len).map f) (j / 9) (j % 9) (by rw [hlen]; omega) (Nat.mod_lt _ (by decide))
        rw [show j / 9 * 9 + j % 9 = j by omega, hj] at hg
        have := hs (j / 9) (by omega) (j % 9) v (by rw [hg]; simp)
        rw [show j / 9 * 9 + j % 9 = j by omega] at this
        exact this
    · intro x hx
      simp only [List.mem_map, List.mem_range] at hx
      obtain ⟨i, hi, rfl⟩ := hx
      exact (hf i hi).2
end
#print axioms read_opsF
end Go.Proofs.YtjgcfffepkmojaaGreat
