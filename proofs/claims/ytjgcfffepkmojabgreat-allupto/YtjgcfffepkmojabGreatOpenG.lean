import Derived.Test.YtjgcfffepkmojabGreatOpen
import Derived.Test.YtjgcfffepkmojabGreatUpG
import Derived.Test.YtjgcfffepkmojabGreatRows
import Derived.Deep.Slices
import Derived.Lib.SmallJoins
namespace Go.Proofs.YtjgcfffepkmojabGreat
open Go.RowKit
set_option linter.unusedVariables false

section
variable {H : Type} {enc : TypeId × Value → H} {W : World}
theorem gr_sum (l : List Nat) (f : Nat → OpR) (D : Nat → DataW H) (h : ∀ i ∈ l, (f i).gr ≤ 12 * Rows.uptoBulk (D i)) : ((l.map f).map OpR.gr).sum ≤ 12 * Rows.uptoBulkAll (l.map D) := by
  induction l with
  | nil => simp [Rows.uptoBulkAll]
  | cons i l ih =>
    have h1 := h i (by simp)
    have h2 := ih (fun j hj => h j (by simp [hj]))
    simp only [List.map_cons, List.sum_cons, Rows.uptoBulkAll]
    omega
theorem read_rulesG {fuel : Nat} {v : Value} {x : DataW H × List MemPlace} (h : Rd enc W fuel 36 [v] x) (hb : Rows.uptoBulk x.1 ≤ 1048576) :
    ∃ (ao : Option Addr) (cap : Nat) (rs : List Rul), v = .slice ao rs.length cap ∧ PolV W W.heap.size ao rs ∧ rs.length ≤ Rows.uptoBulk x.1 := by
  obtain ⟨ao, cap, rs, e, hv, hvB, hz, hl, hok⟩ := read_list (⟨0, none, 0, [], 0⟩ : Rul) (f := Rul.cs) (s := 3) (by decide) (fun _ => rfl) (Rul.got W) Tryz.underlying36 cells_rule (Rows.uptoBulk x.1) (fun _ _ _ h hb' => read_rule h (by omega)) h (Nat.le_refl _)
  exact ⟨ao, cap, rs, e, ⟨⟨hv, fun x hx => (hok x hx).1⟩, ⟨hvB, hz, by omega⟩, fun x hx => (hok x hx).2⟩, hl⟩
theorem read_stringsG {fuel : Nat} {v : Value} {x : DataW H × List MemPlace} (h : Rd enc W fuel 39 [v] x) (hb : Rows.uptoBulk x.1 ≤ 1048576) :
    ∃ (ao : Option Addr) (cap : Nat) (ss : List ByteArray), v = .slice ao ss.length cap ∧ StrV W W.heap.size ao ss ∧ ss.length ≤ Rows.uptoBulk x.1 := by
  obtain ⟨ao, cap, ss, e, hv, hvB, hz, hl, hok⟩ := read_list ByteArray.empty (f := fun s : ByteArray => [Value.string s]) (s := 1) (by decide) (fun _ => rfl) (fun s => s.size ≤ 1048576) Tryz.underlying39 cells_string (Rows.uptoBulk x.1) (fun fuel cs x h hb' => by
    obtain ⟨s, e3, e3', _⟩ := DataW.trod_string Tryz.underlying9 h
    have hb3 : Rows.uptoBulk x.1 = s.data.toList.length + 1 := by rw [e3']; simp [Rows.uptoBulk]
    have hl : s.data.toList.length = s.size := by simp
    exact ⟨s, e3, by omega⟩) h (Nat.le_refl _)
  exact ⟨ao, cap, ss, e, ⟨hv, ⟨hvB, hz, by omega⟩, fun x hx => by have := hok x hx; omega⟩, hl⟩

/-- A step that came in. -/
theorem read_opG {fuel : Nat} {cs : List Value} {x : DataW H × List MemPlace} (h : Rd enc W fuel 41 cs x) (hb : Rows.uptoBulk x.1 ≤ 1048576) : ∃ o : OpR, cs = o.cs ∧ o.ok W W.heap.size ∧ o.gr ≤ 12 * Rows.uptoBulk x.1 := by
  obtain ⟨y0, y1, y2, y3, y4, y5, n, hx, hl, h0, h1, h2, h3, h4, h5⟩ := trod_struct6 Tryz.underlying41 h
  rw [cells_op] at hl
  have hB := bulk_agg [y0.1, y1.1, y2.1, y3.1, y4.1, y5.1]
  have b2 := bulk_in (d := y2.1) (l := [y0.1, y1.1, y2.1, y3.1, y4.1, y5.1]) (by simp)
  have b3 := bulk_in (d := y3.1) (l := [y0.1, y1.1, y2.1, y3.1, y4.1, y5.1]) (by simp)
  have b4 := bulk_in (d := y4.1) (l := [y0.1, y1.1, y2.1, y3.1, y4.1, y5.1]) (by simp)
  have b5 := bulk_in (d := y5.1) (l := [y0.1, y1.1, y2.1, y3.1, y4.1, y5.1]) (by simp)
  rw [hx] at hb
  obtain ⟨c0, c1, c2, c3, c4, c5, c6, c7, c8, rfl⟩ := list9 hl
  · simp only [cells_int, cells_insns, cells_string, cells_policy, cells_strings, List.drop, List.take] at h0 h1 h2 h3 h4 h5
    obtain ⟨k, e0, _, _⟩ := DataW.trod_int Tryz.underlying3 h0
    obtain ⟨N, e1, _, wN⟩ := DataW.trod_int Tryz.underlying3 h1
    obtain ⟨ao, cap, l, e2, hv, hvB, hz, hl', hok⟩ := read_insns (K := 1048576) h2 (by omega)
    obtain ⟨s, e3, e3', _⟩ := DataW.trod_string Tryz.underlying9 h3
    obtain ⟨z0, z1, z2, z3, n4, hz4, _, g0, g1, g2, g3⟩ := Go.Joins.trod_struct4 Tryz.underlying38 h4
    have b40 := bulk_agg [z0.1, z1.1, z2.1, z3.1]
    have b41 := bulk_in (d := z1.1) (l := [z0.1, z1.1, z2.1, z3.1]) (by simp)
    have b42 : Rows.uptoBulk y4.1 = Rows.uptoBulk (DataW.agg [z0.1, z1.1, z2.1, z3.1]) := by rw [hz4]
    simp only [cells_u32, cells_rules, List.drop, List.take] at g0 g1 g2 g3
    obtain ⟨q0, i0, _, j0⟩ := DataW.trod_int Tryz.underlying27 g0
    obtain ⟨a1, c1', rs, i1, hpol, hn1⟩ := read_rulesG g1 (by omega)
    obtain ⟨q2, i2, _, j2⟩ := DataW.trod_int Tryz.underlying27 g2
    obtain ⟨q3, i3, _, j3⟩ := DataW.trod_int Tryz.underlying27 g3
    obtain ⟨a2, c2', ss, i5, hstr, hn2⟩ := read_stringsG h5 (by omega)
    simp only [List.cons.injEq, and_true] at e0 e1 e3 i0 i2 i3
    have hs : s.size ≤ 1048576 := by
      have hb3 : Rows.uptoBulk y3.1 = s.data.toList.length + 1 := by rw [e3']; simp [Rows.uptoBulk]
      have : s.data.toList.length = s.size := by simp
      omega
    subst e0 e1 e2 e3 i0 i1 i2 i3 i5
    exact ⟨⟨k, N, ao, cap, l, s, q0, a1, rs.length, c1', q2, q3, a2, ss.length, c2'⟩, rfl, ⟨hv, hvB, hz, by show l.length ≤ _; omega, hok, by show s.size ≤ _; omega, wfi wN, ⟨wf32 j0, wf32 j2, wf32 j3⟩, ⟨rs, rfl, hpol⟩, ⟨ss, rfl, hstr⟩⟩, by
      show 12 + 4 * (rs.length + ss.length) ≤ _
      rw [hx]
      simp only [Rows.uptoBulk, Rows.uptoBulkAll] at b42 ⊢
      omega⟩

/-- The script that came in. -/
theorem read_opsG {fuel : Nat} {v : Value} {x : DataW H × List MemPlace} (h : Rd enc W fuel 22 [v] x) (hb : Rows.uptoBulk x.1 ≤ 1048576) :
    ∃ (so : Option Addr) (cap : Nat) (ops : List OpR), v = .slice so ops.length cap ∧ View W so (ocs ops) ∧ ops.length ≤ 10000000 ∧ (∀ o ∈ ops, o.ok W W.heap.size) ∧ (ops.map OpR.gr).sum ≤ 12582912 := by
  rcases Go.Deep.open_slice Tryz.underlying22 h with ⟨hc, _⟩ | ⟨a, len, cap, m, n, D, Pl, hc, _, hlc, _, hm, rfl, hx⟩
  · simp only [List.cons.injEq, and_true] at hc
    exact ⟨none, 0, [], hc, .inl rfl, Nat.zero_le _, fun x hx => (by cases hx), by decide⟩
  · simp only [List.cons.injEq, and_true] at hc
    have hlm : len ≤ m := by rw [hm]; simpa using hlc
    have h2 := bulk_sl ((List.range len).map D) ((List.range (m - len)).map fun j => D (len + j))
    simp only at hb
    obtain ⟨f, hf⟩ := @Go.Deep.choose_lt OpR ⟨zOp⟩ len (fun i y => W.cells? 0 (a.add (i * 9)) 9 = some y.cs ∧ y.ok W W.heap.size ∧ y.gr ≤ 12 * Rows.uptoBulk (D i)) (fun i hi => by
      obtain ⟨cs', h1, h2'⟩ := hx i (by omega)
      rw [cells_op] at h1
      have hbi := bulk_in (d := D i) (l := (List.range len).map D) (List.mem_map.2 ⟨i, List.mem_range.2 hi, rfl⟩)
      obtain ⟨y, rfl, hy⟩ := read_opG h2' (by show Rows.uptoBulk (D i) ≤ _; omega)
      exact ⟨y, h1, hy⟩)
    have hlen : ((List.range len).map f).length = len := by simp
    have hK : len ≤ 1048576 := by
      have h1 := bulk_count ((List.range len).map D)
      simp only [List.length_map, List.length_range] at h1
      omega
    refine ⟨some a, cap, (List.range len).map f, by rw [hlen]; exact hc, ?_, by rw [hlen]; omega, ?_, ?_⟩
    · by_cases h0 : len = 0
      · subst h0; exact .inl rfl
      · obtain ⟨ha, hlt, hs⟩ := seg_rows (W := W) (a := a) (n := len) (s := 9) (f := fun i => (f i).cs) (by decide) (by omega) (fun i _ => rfl) (fun i hi j v hj => (cells_at (hf i hi).1).2 j v hj)
        refine .inr ⟨a.block, a.off, by rw [← ha], fun j v hj => ?_⟩
        have hj9 : j < len * 9 := by have := (List.getElem?_eq_some_iff.1 hj).1; rw [ocs_len, hlen] at this; exact this
        have hg := ocs_get ((List.range len).map f) (j / 9) (j % 9) (by rw [hlen]; omega) (Nat.mod_lt _ (by decide))
        rw [show j / 9 * 9 + j % 9 = j by omega, hj] at hg
        have := hs (j / 9) (by omega) (j % 9) v (by rw [hg]; simp)
        rw [show j / 9 * 9 + j % 9 = j by omega] at this
        exact this
    · intro x hx
      simp only [List.mem_map, List.mem_range] at hx
      obtain ⟨i, hi, rfl⟩ := hx
      exact (hf i hi).2.1
    · have h9 : (((List.range len).map f).map OpR.gr).sum ≤ 12 * Rows.uptoBulkAll ((List.range len).map D) := gr_sum (List.range len) f D (fun i hi => (hf i (List.mem_range.1 hi)).2.2)
      omega
end
#print axioms read_opsG
end Go.Proofs.YtjgcfffepkmojabGreat
