import Derived.Test.YtjgcfffepkmojaaGreatExample
import Derived.Test.YtjgcfffepkmojaaGreatRows
import Derived.Deep.Slices
import Derived.Lib.SmallJoins
namespace Go.Proofs.YtjgcfffepkmojaaGreat
open Go.RowKit
set_option linter.unusedVariables false

section
variable {H : Type}
/-- Bulk: each datum counts, a part no more than the whole. -/
theorem bulk_pos (d : DataW H) : 1 ≤ Rows.uptoBulk d := by
  cases d with
  | lit l => cases l <;> simp [Rows.uptoBulk]
  | _ => simp [Rows.uptoBulk]
theorem bulk_in {d : DataW H} {l : List (DataW H)} (h : d ∈ l) : Rows.uptoBulk d ≤ Rows.uptoBulkAll l := by
  induction l with
  | nil => cases h
  | cons x r ih =>
    simp only [Rows.uptoBulkAll]
    rcases List.mem_cons.1 h with e | e
    · rw [e]; omega
    · have := ih e; omega
theorem bulk_count (l : List (DataW H)) : l.length ≤ Rows.uptoBulkAll l := by
  induction l with
  | nil => simp
  | cons x r ih => have := bulk_pos x; simp only [Rows.uptoBulkAll, List.length_cons]; omega
theorem bulk_sl (e s : List (DataW H)) : Rows.uptoBulkAll e ≤ Rows.uptoBulk (.slice e s) := by simp only [Rows.uptoBulk]; omega
theorem bulk_agg (e : List (DataW H)) : Rows.uptoBulkAll e ≤ Rows.uptoBulk (.agg e) := by simp only [Rows.uptoBulk]; omega
end

theorem cells_at {w : World} {a : Addr} {n : Nat} {cs : List Value} (h : w.cells? 0 a n = some cs) : cs.length = n ∧ ∀ j v, cs[j]? = some v → w.cell? (a.add j) = some v := by
  obtain ⟨_, h1, h2⟩ := World.cells?_some h
  exact ⟨h1, fun j v hj => by rw [h2 j (by have := (List.getElem?_eq_some_iff.1 hj).1; omega)]; exact hj⟩
theorem spot_none {w : World} {a : Addr} {v : Value} (h : w.cell? a = some v) : a = ⟨a.block, a.off, none⟩ := by
  obtain ⟨b, o, sp⟩ := a
  cases sp with
  | none => rfl
  | some x => simp [World.cell?] at h; split at h <;> simp at h

theorem wf16 {n : Int} (h : (Lit.int .u16 n).wf = true) : 0 ≤ n ∧ n < 65536 := by
  simp [Lit.wf, IntKind.min, IntKind.max, IntKind.signed, IntKind.bits] at h; omega
theorem wf8 {n : Int} (h : (Lit.int .u8 n).wf = true) : 0 ≤ n ∧ n < 256 := by
  simp [Lit.wf, IntKind.min, IntKind.max, IntKind.signed, IntKind.bits] at h; omega
theorem wf32 {n : Int} (h : (Lit.int .u32 n).wf = true) : 0 ≤ n ∧ n < 4294967296 := by
  simp [Lit.wf, IntKind.min, IntKind.max, IntKind.signed, IntKind.bits] at h; omega

theorem wf64 {n : Int} (h : (Lit.int .u64 n).wf = true) : U64 n := by
  unfold U64
  simp [Lit.wf, IntKind.min, IntKind.max, IntKind.signed, IntKind.bits] at h; omega
theorem wfi {n : Int} (h : (Lit.int .i64 n).wf = true) : I64 n := by
  unfold I64
  simp [Lit.wf, IntKind.min, IntKind.max, IntKind.signed, IntKind.bits] at h; omega
theorem list3 {α : Type} {l : List α} (h : l.length = 3) : ∃ a b c, l = [a, b, c] := by
  match l, h with
  | [a, b, c], _ => exact ⟨a, b, c, rfl⟩
theorem list1 {α : Type} {l : List α} (h : l.length = 1) : ∃ a, l = [a] := by
  match l, h with
  | [a], _ => exact ⟨a, rfl⟩
theorem list4 {α : Type} {l : List α} (h : l.length = 4) : ∃ a b c d, l = [a, b, c, d] := by
  match l, h with
  | [a, b, c, d], _ => exact ⟨a, b, c, d, rfl⟩
theorem list9 {α : Type} {l : List α} (h : l.length = 9) : ∃ a b c d e f g i j, l = [a, b, c, d, e, f, g, i, j] := by
  match l, h with
  | [a, b, c, d, e, f, g, i, j], _ => exact ⟨a, b, c, d, e, f, g, i, j, rfl⟩
theorem cells_insn : Tryz.prog.cellsOf 29 = 4 := by kernel_rfl
theorem cells_u16 : Tryz.prog.cellsOf 26 = 1 := by kernel_rfl
theorem cells_u8 : Tryz.prog.cellsOf 5 = 1 := by kernel_rfl
theorem cells_u32 : Tryz.prog.cellsOf 27 = 1 := by kernel_rfl
theorem cells_int : Tryz.prog.cellsOf 3 = 1 := by kernel_rfl
theorem cells_insns : Tryz.prog.cellsOf 30 = 1 := by kernel_rfl
theorem cells_string : Tryz.prog.cellsOf 9 = 1 := by kernel_rfl
theorem cells_policy : Tryz.prog.cellsOf 38 = 4 := by kernel_rfl
theorem cells_rules : Tryz.prog.cellsOf 36 = 1 := by kernel_rfl
theorem cells_strings : Tryz.prog.cellsOf 39 = 1 := by kernel_rfl
theorem cells_u64 : Tryz.prog.cellsOf 99 = 1 := by kernel_rfl
theorem cells_test : Tryz.prog.cellsOf 101 = 4 := by kernel_rfl
theorem cells_tests : Tryz.prog.cellsOf 33 = 1 := by kernel_rfl
theorem cells_rule : Tryz.prog.cellsOf 35 = 3 := by kernel_rfl
theorem cells_op : Tryz.prog.cellsOf 41 = 9 := by kernel_rfl

section
variable {H : Type} {enc : TypeId × Value → H} {W : World}
abbrev Rd (enc : TypeId × Value → H) (W : World) (fuel : Nat) (t : TypeId) (cs : List Value) (x : DataW H × List MemPlace) : Prop := DataW.trod enc Tryz.prog W 0 (fun _ => true) true fuel t cs = some x

/-- An instruction that came in. -/
theorem read_ins {fuel : Nat} {cs : List Value} {x : DataW H × List MemPlace} (h : Rd enc W fuel 29 cs x) : ∃ i : Ins, cs = i.cs ∧ i.ok := by
  obtain ⟨y0, y1, y2, y3, n, _, hl, h0, h1, h2, h3⟩ := Go.Joins.trod_struct4 Tryz.underlying29 h
  rw [cells_insn] at hl
  obtain ⟨c0, c1, c2, c3, rfl⟩ := list4 hl
  · simp only [cells_u16, cells_u8, cells_u32, List.drop, List.take] at h0 h1 h2 h3
    obtain ⟨a, e0, _, w0⟩ := DataW.trod_int Tryz.underlying26 h0
    obtain ⟨b, e1, _, w1⟩ := DataW.trod_int Tryz.underlying5 h1
    obtain ⟨c, e2, _, w2⟩ := DataW.trod_int Tryz.underlying5 h2
    obtain ⟨d, e3, _, w3⟩ := DataW.trod_int Tryz.underlying27 h3
    simp only [List.cons.injEq, and_true] at e0 e1 e2 e3
    subst e0 e1 e2 e3
    exact ⟨⟨a, b, c, d⟩, rfl, wf16 w0, wf8 w1, wf8 w2, wf32 w3⟩

/-- A slice that came in, whose elements are lists of cells: its row. -/
theorem seg_rows {a : Addr} {n s : Nat} {f : Nat → List Value} (hs : 0 < s) (hn : 0 < n) (hlen : ∀ i, i < n → (f i).length = s) (h : ∀ i, i < n → ∀ j v, (f i)[j]? = some v → W.cell? ((a.add (i * s)).add j) = some v) :
    a = ⟨a.block, a.off, none⟩ ∧ a.block < W.heap.size ∧ ∀ i, i < n → ∀ j v, (f i)[j]? = some v → W.cell? ⟨a.block, a.off + (i * s + j), none⟩ = some v := by
  have h00 : (f 0)[0]? = some ((f 0)[0]'(by rw [hlen 0 hn]; exact hs)) := List.getElem?_eq_getElem _
  have c0 := h 0 hn 0 _ h00
  simp only [Nat.zero_mul] at c0
  rw [Go.Deep.add_add, show a.add (0 + 0) = a from rfl] at c0
  have ha := spot_none c0
  refine ⟨ha, World.block_lt_of_cell? W _ c0, fun i hi j v hj => ?_⟩
  have := h i hi j v hj
  rw [Go.Deep.add_add] at this
  rw [ha, Addr.add_lit] at this
  exact this

/-- A list of instructions that came in. -/
theorem read_insns {fuel : Nat} {v : Value} {x : DataW H × List MemPlace} {K : Nat} (h : Rd enc W fuel 30 [v] x) (hb : Rows.uptoBulk x.1 ≤ K) :
    ∃ (ao : Option Addr) (cap : Nat) (l : List Ins), v = .slice ao l.length cap ∧ View W ao (flat l) ∧ (l ≠ [] → ∀ b off, ao = some ⟨b, off, none⟩ → b < W.heap.size) ∧ (ao = none → l.length = 0) ∧ l.length ≤ K ∧ ∀ x ∈ l, x.ok := by
  rcases Go.Deep.open_slice Tryz.underlying30 h with ⟨hc, _⟩ | ⟨a, len, cap, m, n, D, Pl, hc, _, hlc, _, hm, rfl, hx⟩
  · simp only [List.cons.injEq, and_true] at hc
    exact ⟨none, 0, [], hc, .inl rfl, fun h => absurd rfl h, fun _ => rfl, Nat.zero_le _, fun x hx => (by cases hx)⟩
  · simp only [List.cons.injEq, and_true] at hc
    have hlm : len ≤ m := by rw [hm]; simpa using hlc
    obtain ⟨f, hf⟩ := @Go.Deep.choose_lt Ins ⟨zIns⟩ len (fun i y => W.cells? 0 (a.add (i * 4)) 4 = some y.cs ∧ y.ok) (fun i hi => by
      obtain ⟨cs', h1, h2⟩ := hx i (by omega)
      rw [cells_insn] at h1
      obtain ⟨y, rfl, hy⟩ := read_ins h2
      exact ⟨y, h1, hy⟩)
    have hlen : ((List.range len).map f).length = len := by simp
    have hK : len ≤ K := by
      have h1 := bulk_count ((List.range len).map D)
      have h2 := bulk_sl ((List.range len).map D) ((List.range (m - len)).map fun j => D (len + j))
      simp only [List.length_map, List.length_range] at h1
      simp only at hb
      omega
    refine ⟨some a, cap, (List.range len).map f, by rw [hlen]; exact hc, ?_, ?_, fun e => (by cases e), by rw [hlen]; exact hK, ?_⟩
    · by_cases h0 : len = 0
      · subst h0; exact .inl rfl
      · obtain ⟨ha, hlt, hs⟩ := seg_rows (W := W) (a := a) (n := len) (s := 4) (f := fun i => (f i).cs) (by decide) (by omega) (fun i _ => rfl) (fun i hi j v hj => (cells_at (hf i hi).1).2 j v hj)
        refine .inr ⟨a.block, a.off, by rw [← ha], fun j v hj => ?_⟩
        have hj4 : j < len * 4 := by have := (List.getElem?_eq_some_iff.1 hj).1; rw [flat_len, hlen] at this; exact this
        have hg := flat_get ((List.range len).map f) (j / 4) (j % 4) (by rw [hlen]; omega) (Nat.mod_lt _ (by decide))
        rw [show j / 4 * 4 + j % 4 = j by omega, hj] at hg
        have := hs (j / 4) (by omega) (j % 4) v (by rw [hg]; simp)
        rw [show j / 4 * 4 + j % 4 = j by omega] at this
        exact this
    · intro hne b off e
      have h0 : 0 < len := by
        rcases Nat.eq_zero_or_pos len with h | h
        · subst h; exact absurd rfl hne
        · exact h
      obtain ⟨ha, hlt, _⟩ := seg_rows (W := W) (a := a) (n := len) (s := 4) (f := fun i => (f i).cs) (by decide) h0 (fun i _ => rfl) (fun i hi j v hj => (cells_at (hf i hi).1).2 j v hj)
      simp only [Option.some.injEq] at e
      rw [e] at hlt; exact hlt
    · intro x hx
      simp only [List.mem_map, List.mem_range] at hx
      obtain ⟨i, hi, rfl⟩ := hx
      exact (hf i hi).2

/-- Whatever slice came in has a slice's form. -/
theorem read_slice {fuel t e : Nat} {v : Value} {x : DataW H × List MemPlace} (ht : Tryz.prog.underlying t = some (.slice e)) (h : Rd enc W fuel t [v] x) : ∃ a n c, v = .slice a n c := by
  rcases Go.Deep.open_slice ht h with ⟨hc, _⟩ | ⟨a, len, cap, m, n, D, Pl, hc, _⟩
  · simp only [List.cons.injEq, and_true] at hc; exact ⟨_, _, _, hc⟩
  · simp only [List.cons.injEq, and_true] at hc; exact ⟨_, _, _, hc⟩

theorem trod_struct6 {t : TypeId} {f0 f1 f2 f3 f4 f5 : Field} {fuel : Nat} {cs : List Value} {x : DataW H × List MemPlace} (ht : Tryz.prog.underlying t = some (.struct #[f0, f1, f2, f3, f4, f5])) (h : Rd enc W fuel t cs x) :
    ∃ y0 y1 y2 y3 y4 y5 n, x.1 = .agg [y0.1, y1.1, y2.1, y3.1, y4.1, y5.1] ∧ cs.length = Tryz.prog.cellsOf t ∧ Rd enc W n f0.type ((cs.drop f0.offset).take (Tryz.prog.cellsOf f0.type)) y0 ∧
      Rd enc W n f1.type ((cs.drop f1.offset).take (Tryz.prog.cellsOf f1.type)) y1 ∧ Rd enc W n f2.type ((cs.drop f2.offset).take (Tryz.prog.cellsOf f2.type)) y2 ∧
      Rd enc W n f3.type ((cs.drop f3.offset).take (Tryz.prog.cellsOf f3.type)) y3 ∧ Rd enc W n f4.type ((cs.drop f4.offset).take (Tryz.prog.cellsOf f4.type)) y4 ∧ Rd enc W n f5.type ((cs.drop f5.offset).take (Tryz.prog.cellsOf f5.type)) y5 := by
  obtain ⟨xs, n, _, rfl, hl, hlen, hf⟩ := DataW.trod_struct ht h
  match xs, hlen with
  | [y0, y1, y2, y3, y4, y5], _ => exact ⟨y0, y1, y2, y3, y4, y5, n, by simp, hl, by simpa using hf 0 f0 rfl, by simpa using hf 1 f1 rfl, by simpa using hf 2 f2 rfl, by simpa using hf 3 f3 rfl, by simpa using hf 4 f4 rfl, by simpa using hf 5 f5 rfl⟩

/-- A list that came in: its elements, one by one. -/
theorem read_listM {α : Type} (dflt : α) {f : α → List Value} {s : Nat} (hs : 0 < s) (hf : ∀ x, (f x).length = s) (P : α → Prop) {te tl : TypeId} (hu : Tryz.prog.underlying tl = some (.slice te)) (hcell : Tryz.prog.cellsOf te = s) (K : Nat)
    (hel : ∀ fuel cs x, Rd enc W fuel te cs x → Rows.uptoBulk x.1 ≤ K → ∃ y, cs = f y ∧ P y) {fuel : Nat} {v : Value} {x : DataW H × List MemPlace} (h : Rd enc W fuel tl [v] x) (hb : Rows.uptoBulk x.1 ≤ K) :
    ∃ (ao : Option Addr) (cap : Nat) (l : List α), v = .slice ao l.length cap ∧ View W ao (cat f l) ∧ (0 < l.length → ∀ b off, ao = some ⟨b, off, none⟩ → b < W.heap.size) ∧ (ao = none → l.length = 0) ∧ l.length ≤ K ∧ l.length ≤ 9223372036854775807 ∧ ∀ x ∈ l, P x := by
  have hI : Inhabited α := ⟨dflt⟩
  rcases Go.Deep.open_slice hu h with ⟨hc, _⟩ | ⟨a, len, cap, m, n, D, Pl, hc, _, hlc, hmx, hm, rfl, hx⟩
  · simp only [List.cons.injEq, and_true] at hc
    exact ⟨none, 0, [], hc, .inl rfl, fun h => absurd h (Nat.lt_irrefl _), fun _ => rfl, Nat.zero_le _, Nat.zero_le _, fun x hx => (by cases hx)⟩
  · simp only [List.cons.injEq, and_true] at hc
    have hlm : len ≤ m := by rw [hm]; simpa using hlc
    have h2 := bulk_sl ((List.range len).map D) ((List.range (m - len)).map fun j => D (len + j))
    simp only at hb
    obtain ⟨g, hg⟩ := @Go.Deep.choose_lt α hI len (fun i y => W.cells? 0 (a.add (i * s)) s = some (f y) ∧ P y) (fun i hi => by
      obtain ⟨cs', h1, h2'⟩ := hx i (by omega)
      rw [hcell] at h1
      have hbi := bulk_in (d := D i) (l := (List.range len).map D) (List.mem_map.2 ⟨i, List.mem_range.2 hi, rfl⟩)
      obtain ⟨y, rfl, hy⟩ := hel _ _ _ h2' (by show Rows.uptoBulk (D i) ≤ _; omega)
      exact ⟨y, h1, hy⟩)
    have hlen : ((List.range len).map g).length = len := by simp
    have hK : len ≤ K := by
      have h1 := bulk_count ((List.range len).map D)
      simp only [List.length_map, List.length_range] at h1
      omega
    refine ⟨some a, cap, (List.range len).map g, by rw [hlen]; exact hc, ?_, ?_, fun e => (by cases e), by rw [hlen]; exact hK, by rw [hlen]; unfold maxLen at hmx; omega, ?_⟩
    · by_cases h0 : len = 0
      · subst h0; exact .inl rfl
      · obtain ⟨ha, hlt, hsg⟩ := seg_rows (W := W) (a := a) (n := len) (s := s) (f := fun i => f (g i)) hs (by omega) (fun i _ => hf _) (fun i hi j v hj => (cells_at (hg i hi).1).2 j v hj)
        refine .inr ⟨a.block, a.off, by rw [← ha], fun j v hj => ?_⟩
        have hj9 : j < len * s := by have := (List.getElem?_eq_some_iff.1 hj).1; rw [cat_len hf, hlen] at this; exact this
        have hdm : j / s * s + j % s = j := by rw [Nat.mul_comm]; exact Nat.div_add_mod j s
        have hdl : j / s < len := Nat.div_lt_of_lt_mul (by rw [Nat.mul_comm]; exact hj9)
        have hgt := cat_get hf ((List.range len).map g) (j / s) (j % s) (by rw [hlen]; exact hdl) (Nat.mod_lt _ hs)
        rw [hdm, hj] at hgt
        have := hsg (j / s) hdl (j % s) v (by rw [hgt]; simp)
        rw [hdm] at this
        exact this
    · intro hne b off e
      rw [hlen] at hne
      obtain ⟨ha, hlt, _⟩ := seg_rows (W := W) (a := a) (n := len) (s := s) (f := fun i => f (g i)) hs hne (fun i _ => hf _) (fun i hi j v hj => (cells_at (hg i hi).1).2 j v hj)
      simp only [Option.some.injEq] at e
      rw [e] at hlt; exact hlt
    · intro x hx
      simp only [List.mem_map, List.mem_range] at hx
      obtain ⟨i, hi, rfl⟩ := hx
      exact (hg i hi).2
theorem read_list {α : Type} (dflt : α) {f : α → List Value} {s : Nat} (hs : 0 < s) (hf : ∀ x, (f x).length = s) (P : α → Prop) {te tl : TypeId} (hu : Tryz.prog.underlying tl = some (.slice te)) (hcell : Tryz.prog.cellsOf te = s) (K : Nat)
    (hel : ∀ fuel cs x, Rd enc W fuel te cs x → Rows.uptoBulk x.1 ≤ K → ∃ y, cs = f y ∧ P y) {fuel : Nat} {v : Value} {x : DataW H × List MemPlace} (h : Rd enc W fuel tl [v] x) (hb : Rows.uptoBulk x.1 ≤ K) :
    ∃ (ao : Option Addr) (cap : Nat) (l : List α), v = .slice ao l.length cap ∧ View W ao (cat f l) ∧ (0 < l.length → ∀ b off, ao = some ⟨b, off, none⟩ → b < W.heap.size) ∧ (ao = none → l.length = 0) ∧ l.length ≤ K ∧ ∀ x ∈ l, P x := by
  obtain ⟨ao, cap, l, h1, h2, h3, h4, h5, _, h6⟩ := read_listM dflt hs hf P hu hcell K hel h hb
  exact ⟨ao, cap, l, h1, h2, h3, h4, h5, h6⟩
theorem read_test {fuel : Nat} {cs : List Value} {x : DataW H × List MemPlace} (h : Rd enc W fuel 101 cs x) : ∃ t : Tst, cs = t.cs ∧ t.rng := by
  obtain ⟨y0, y1, y2, y3, n, _, hl, h0, h1, h2, h3⟩ := Go.Joins.trod_struct4 Tryz.underlying101 h
  rw [cells_test] at hl
  obtain ⟨c0, c1, c2, c3, rfl⟩ := list4 hl
  · simp only [cells_int, cells_u64, List.drop, List.take] at h0 h1 h2 h3
    obtain ⟨a, e0, _, w0⟩ := DataW.trod_int Tryz.underlying3 h0
    obtain ⟨b, e1, _, w1⟩ := DataW.trod_int Tryz.underlying3 h1
    obtain ⟨c, e2, _, w2⟩ := DataW.trod_int Tryz.underlying99 h2
    obtain ⟨d, e3, _, w3⟩ := DataW.trod_int Tryz.underlying99 h3
    simp only [List.cons.injEq, and_true] at e0 e1 e2 e3
    subst e0 e1 e2 e3
    exact ⟨⟨a, b, c, d⟩, rfl, wfi w0, wfi w1, wf64 w2, wf64 w3⟩
theorem trod_struct3 {t : TypeId} {f0 f1 f2 : Field} {fuel : Nat} {cs : List Value} {x : DataW H × List MemPlace} (ht : Tryz.prog.underlying t = some (.struct #[f0, f1, f2])) (h : Rd enc W fuel t cs x) :
    ∃ y0 y1 y2 n, x.1 = .agg [y0.1, y1.1, y2.1] ∧ cs.length = Tryz.prog.cellsOf t ∧ Rd enc W n f0.type ((cs.drop f0.offset).take (Tryz.prog.cellsOf f0.type)) y0 ∧
      Rd enc W n f1.type ((cs.drop f1.offset).take (Tryz.prog.cellsOf f1.type)) y1 ∧ Rd enc W n f2.type ((cs.drop f2.offset).take (Tryz.prog.cellsOf f2.type)) y2 := by
  obtain ⟨xs, n, _, rfl, hl, hlen, hf⟩ := DataW.trod_struct ht h
  match xs, hlen with
  | [y0, y1, y2], _ => exact ⟨y0, y1, y2, n, by simp, hl, by simpa using hf 0 f0 rfl, by simpa using hf 1 f1 rfl, by simpa using hf 2 f2 rfl⟩
/-- A rule that came in. -/
def Rul.got (W : World) (x : Rul) : Prop := View W x.ta (tcs x.ts) ∧ low' W.heap.size x.ta x.ts.length ∧ U32 x.number ∧ U32 x.verdict ∧ ∀ t ∈ x.ts, t.rng
theorem read_rule {fuel : Nat} {cs : List Value} {x : DataW H × List MemPlace} (h : Rd enc W fuel 35 cs x) (hb : Rows.uptoBulk x.1 ≤ 1048576) : ∃ r : Rul, cs = r.cs ∧ r.got W := by
  obtain ⟨y0, y1, y2, n, hx, hl, h0, h1, h2⟩ := trod_struct3 Tryz.underlying35 h
  rw [cells_rule] at hl
  have hB := bulk_agg [y0.1, y1.1, y2.1]
  have b1 := bulk_in (d := y1.1) (l := [y0.1, y1.1, y2.1]) (by simp)
  rw [hx] at hb
  obtain ⟨c0, c1, c2, rfl⟩ := list3 hl
  · simp only [cells_u32, cells_tests, List.drop, List.take] at h0 h1 h2
    obtain ⟨a, e0, _, w0⟩ := DataW.trod_int Tryz.underlying27 h0
    obtain ⟨d, e2, _, w2⟩ := DataW.trod_int Tryz.underlying27 h2
    obtain ⟨ao, cap, ts, e1, hv, hvB, hz, hl', hok⟩ := read_list (⟨0, 0, 0, 0⟩ : Tst) (f := Tst.cs) (s := 4) (by decide) (fun _ => rfl) Tst.rng Tryz.underlying33 cells_test 1048576 (fun _ _ _ h _ => read_test h) h1 (by omega)
    simp only [List.cons.injEq, and_true] at e0 e2
    subst e0 e1 e2
    exact ⟨⟨a, ao, cap, ts, d⟩, rfl, hv, ⟨hvB, hz, by show ts.length ≤ _; omega⟩, wf32 w0, wf32 w2, hok⟩
theorem read_rules {fuel : Nat} {v : Value} {x : DataW H × List MemPlace} (h : Rd enc W fuel 36 [v] x) (hb : Rows.uptoBulk x.1 ≤ 1048576) :
    ∃ (ao : Option Addr) (cap : Nat) (rs : List Rul), v = .slice ao rs.length cap ∧ PolV W W.heap.size ao rs := by
  obtain ⟨ao, cap, rs, e, hv, hvB, hz, hl, hok⟩ := read_list (⟨0, none, 0, [], 0⟩ : Rul) (f := Rul.cs) (s := 3) (by decide) (fun _ => rfl) (Rul.got W) Tryz.underlying36 cells_rule 1048576 (fun _ _ _ h hb => read_rule h hb) h hb
  exact ⟨ao, cap, rs, e, ⟨hv, fun x hx => (hok x hx).1⟩, ⟨hvB, hz, by omega⟩, fun x hx => (hok x hx).2⟩
theorem read_strings {fuel : Nat} {v : Value} {x : DataW H × List MemPlace} (h : Rd enc W fuel 39 [v] x) (hb : Rows.uptoBulk x.1 ≤ 1048576) :
    ∃ (ao : Option Addr) (cap : Nat) (ss : List ByteArray), v = .slice ao ss.length cap ∧ StrV W W.heap.size ao ss := by
  obtain ⟨ao, cap, ss, e, hv, hvB, hz, hl, hok⟩ := read_list ByteArray.empty (f := fun s : ByteArray => [Value.string s]) (s := 1) (by decide) (fun _ => rfl) (fun s => s.size ≤ 1048576) Tryz.underlying39 cells_string 1048576 (fun fuel cs x h hb => by
    obtain ⟨s, e3, e3', _⟩ := DataW.trod_string Tryz.underlying9 h
    have hb3 : Rows.uptoBulk x.1 = s.data.toList.length + 1 := by rw [e3']; simp [Rows.uptoBulk]
    have hl : s.data.toList.length = s.size := by simp
    exact ⟨s, e3, by omega⟩) h hb
  exact ⟨ao, cap, ss, e, hv, ⟨hvB, hz, by omega⟩, fun x hx => by have := hok x hx; omega⟩

/-- A step that came in. -/
theorem read_op {fuel : Nat} {cs : List Value} {x : DataW H × List MemPlace} (h : Rd enc W fuel 41 cs x) (hb : Rows.uptoBulk x.1 ≤ 1048576) : ∃ o : OpR, cs = o.cs ∧ o.ok W W.heap.size := by
  obtain ⟨y0, y1, y2, y3, y4, y5, n, hx, hl, h0, h1, h2, h3, h4, h5⟩ := trod_struct6 Tryz.underlying41 h
  rw [cells_op] at hl
  have hB := bulk_agg [y0.1, y1.1, y2.1, y3.1, y4.1, y5.1]
  have b2 := bulk_in (d := y2.1) (l := [y0.1, y1.1, y2.1, y3.1, y4.1, y5.1]) (by simp)
  have b3 := bulk_in (d := y3.1) (l := [y0.1, y1.1, y2.1, y3.1, y4.1, y5.1]) (by simp)
  have b4 := bulk_in (d := y4.1) (l := [y0.1, y1.1, y2.1, y3.1, y4.1, y5.1]) (by simp)
  have b5 := bulk_in (d := y5.1) (l := [y0.1, y1.1, y2.1, y3.1, y4.1, y5.1]) (by simp)
  rw [hx] at hb
  obtain ⟨c0, c1, c2, c3, c4, c5, c6, c7, c8, rfl⟩ := list9 hl
  · simp only [cells_int, cells_insns, cells_string, cells_policy, cells_strings, List.drop, List.take] at h0 h1 h2 h3 h4 h5
    obtain ⟨k, e0, _, _⟩ := DataW.trod_int Tryz.underlying3 h0
    obtain ⟨N, e1, _, wN⟩ := DataW.trod_int Tryz.underlying3 h1
    obtain ⟨ao, cap, l, e2, hv, hvB, hz, hl', hok⟩ := read_insns (K := 1048576) h2 (by omega)
    obtain ⟨s, e3, e3', _⟩ := DataW.trod_string Tryz.underlying9 h3
    obtain ⟨z0, z1, z2, z3, n4, hz4, _, g0, g1, g2, g3⟩ := Go.Joins.trod_struct4 Tryz.underlying38 h4
    have b40 := bulk_agg [z0.1, z1.1, z2.1, z3.1]
    have b41 := bulk_in (d := z1.1) (l := [z0.1, z1.1, z2.1, z3.1]) (by simp)
    have b42 : Rows.uptoBulk y4.1 = Rows.uptoBulk (DataW.agg [z0.1, z1.1, z2.1, z3.1]) := by rw [hz4]
    simp only [cells_u32, cells_rules, List.drop, List.take] at g0 g1 g2 g3
    obtain ⟨q0, i0, _, j0⟩ := DataW.trod_int Tryz.underlying27 g0
    obtain ⟨a1, c1', rs, i1, hpol⟩ := read_rules g1 (by omega)
    obtain ⟨q2, i2, _, j2⟩ := DataW.trod_int Tryz.underlying27 g2
    obtain ⟨q3, i3, _, j3⟩ := DataW.trod_int Tryz.underlying27 g3
    obtain ⟨a2, c2', ss, i5, hstr⟩ := read_strings h5 (by omega)
    simp only [List.cons.injEq, and_true] at e0 e1 e3 i0 i2 i3
    have hs : s.size ≤ 1048576 := by
      have hb3 : Rows.uptoBulk y3.1 = s.data.toList.length + 1 := by rw [e3']; simp [Rows.uptoBulk]
      have : s.data.toList.length = s.size := by simp
      omega
    subst e0 e1 e2 e3 i0 i1 i2 i3 i5
    exact ⟨⟨k, N, ao, cap, l, s, q0, a1, rs.length, c1', q2, q3, a2, ss.length, c2'⟩, rfl, hv, hvB, hz, by show l.length ≤ _; omega, hok, by show s.size ≤ _; omega, wfi wN, ⟨wf32 j0, wf32 j2, wf32 j3⟩, ⟨rs, rfl, hpol⟩, ⟨ss, rfl, hstr⟩⟩

def zOp : OpR := ⟨0, 0, none, 0, [], ⟨#[]⟩, 0, none, 0, 0, 0, 0, none, 0, 0⟩

/-- The script that came in. -/
theorem read_ops {fuel : Nat} {v : Value} {x : DataW H × List MemPlace} (h : Rd enc W fuel 22 [v] x) (hb : Rows.uptoBulk x.1 ≤ 1048576) :
    ∃ (so : Option Addr) (cap : Nat) (ops : List OpR), v = .slice so ops.length cap ∧ View W so (ocs ops) ∧ ops.length ≤ 10000000 ∧ ∀ o ∈ ops, o.ok W W.heap.size := by
  rcases Go.Deep.open_slice Tryz.underlying22 h with ⟨hc, _⟩ | ⟨a, len, cap, m, n, D, Pl, hc, _, hlc, _, hm, rfl, hx⟩
  · simp only [List.cons.injEq, and_true] at hc
    exact ⟨none, 0, [], hc, .inl rfl, Nat.zero_le _, fun x hx => (by cases hx)⟩
  · simp only [List.cons.injEq, and_true] at hc
    have hlm : len ≤ m := by rw [hm]; simpa using hlc
    have h2 := bulk_sl ((List.range len).map D) ((List.range (m - len)).map fun j => D (len + j))
    simp only at hb
    obtain ⟨f, hf⟩ := @Go.Deep.choose_lt OpR ⟨zOp⟩ len (fun i y => W.cells? 0 (a.add (i * 9)) 9 = some y.cs ∧ y.ok W W.heap.size) (fun i hi => by
      obtain ⟨cs', h1, h2'⟩ := hx i (by omega)
      rw [cells_op] at h1
      have hbi := bulk_in (d := D i) (l := (List.range len).map D) (List.mem_map.2 ⟨i, List.mem_range.2 hi, rfl⟩)
      obtain ⟨y, rfl, hy⟩ := read_op h2' (by show Rows.uptoBulk (D i) ≤ _; omega)
      exact ⟨y, h1, hy⟩)
    have hlen : ((List.range len).map f).length = len := by simp
    have hK : len ≤ 1048576 := by
      have h1 := bulk_count ((List.range len).map D)
      simp only [List.length_map, List.length_range] at h1
      omega
    refine ⟨some a, cap, (List.range len).map f, by rw [hlen]; exact hc, ?_, by rw [hlen]; omega, ?_⟩
    · by_cases h0 : len = 0
      · subst h0; exact .inl rfl
      · obtain ⟨ha, hlt, hs⟩ := seg_rows (W := W) (a := a) (n := len) (s := 9) (f := fun i => (f i).cs) (by decide) (by omega) (fun i _ => rfl) (fun i hi j v hj => (cells_at (hf i hi).1).2 j v hj)
        refine .inr ⟨a.block, a.off, by rw [← ha], fun j v hj => ?_⟩
        have hj9 : j < len * 9 := by have := (List.getElem?_eq_some_iff.1 hj).1; rw [ocs_len, hlen] at this; exact this
        have hg := ocs_get ((List.range len).map f) (j / 9) (j % 9) (by rw [hlen]; omega) (Nat.mod_lt _ (by decide))
        rw [show j / 9 * 9 + j % 9 = j by omega, hj] at hg
        have := hs (j / 9) (by omega) (j % 9) v (by rw [hg]; simp)
        rw [show j / 9 * 9 + j % 9 = j by omega] at this
        exact this
    · intro x hx
      simp only [List.mem_map, List.mem_range] at hx
      obtain ⟨i, hi, rfl⟩ := hx
      exact (hf i hi).2
end
#print axioms read_ops
end Go.Proofs.YtjgcfffepkmojaaGreat
