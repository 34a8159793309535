import Derived.Test.YtjgcfffepkmojaaGreatLooks
namespace Go.Proofs.YtjgcfffepkmojaaGreat
open Go.RowKit
set_option linter.unusedVariables false

/-- An instruction, as the model's numbers. -/
structure Ins where
  code : Int
  jt : Int
  jf : Int
  k : Int
def Ins.ok (x : Ins) : Prop := (0 ≤ x.code ∧ x.code < 65536) ∧ (0 ≤ x.jt ∧ x.jt < 256) ∧ (0 ≤ x.jf ∧ x.jf < 256) ∧ (0 ≤ x.k ∧ x.k < 4294967296)
def Ins.cs (x : Ins) : List Value := [.int .u16 x.code, .int .u8 x.jt, .int .u8 x.jf, .int .u32 x.k]
def flat : List Ins → List Value
  | [] => []
  | x :: l => x.cs ++ flat l
theorem flat_len (l : List Ins) : (flat l).length = l.length * 4 := by
  induction l with
  | nil => rfl
  | cons x l ih => simp [flat, Ins.cs, ih]; omega
theorem flat_append (l m : List Ins) : flat (l ++ m) = flat l ++ flat m := by
  induction l with
  | nil => rfl
  | cons x l ih => simp [flat, ih]
theorem flat_get (l : List Ins) (k j : Nat) (hk : k < l.length) (hj : j < 4) : (flat l)[k * 4 + j]? = (l[k]).cs[j]? := by
  induction l generalizing k with
  | nil => simp at hk
  | cons x l ih =>
    cases k with
    | zero => simp only [flat]; rw [List.getElem?_append_left (by simp [Ins.cs]; omega)]; simp
    | succ k =>
      simp only [flat]
      rw [List.getElem?_append_right (by simp [Ins.cs]; omega)]
      have := ih k (by simpa using hk)
      rw [show (k + 1) * 4 + j - x.cs.length = k * 4 + j by simp [Ins.cs]; omega]
      simpa using this
theorem flat_one (x : Ins) : flat [x] = x.cs := by simp [flat]
theorem flat_oneCell (l : List Ins) : ∀ u ∈ flat l, u.oneCell' = true := by
  induction l with
  | nil => intro u hu; cases hu
  | cons x l ih =>
    intro u hu
    simp only [flat, List.mem_append] at hu
    rcases hu with hu | hu
    · simp [Ins.cs] at hu; rcases hu with rfl | rfl | rfl | rfl <;> rfl
    · exact ih u hu

/-- A string's bytes as cells. -/
def bcs (s : ByteArray) : List Value := s.data.toList.map fun b : UInt8 => Value.int .u8 b.toNat
theorem bcs_len (s : ByteArray) : (bcs s).length = s.size := by simp [bcs]
theorem bcs_get (s : ByteArray) (k : Nat) (h : k < s.size) : (bcs s)[k]? = some (.int .u8 (s[k]'h).toNat) := by
  have h' : k < s.data.toList.length := by simpa using h
  simp only [bcs, List.getElem?_map]
  rw [List.getElem?_eq_getElem h']
  rfl
theorem bcs_oneCell (s : ByteArray) : ∀ u ∈ bcs s, u.oneCell' = true := by
  intro u hu
  simp only [bcs, List.mem_map] at hu
  obtain ⟨b, _, rfl⟩ := hu
  rfl

/-- Cells in a row, from a place on. -/
def Seg (w : World) (b off : Nat) (xs : List Value) : Prop := ∀ j v, xs[j]? = some v → w.cell? ⟨b, off + j, none⟩ = some v
/-- What a slice's cells hold. -/
def View (w : World) (ao : Option Addr) (xs : List Value) : Prop := xs = [] ∨ ∃ b off, ao = some ⟨b, off, none⟩ ∧ Seg w b off xs
theorem Seg.fr {S : Nat → Prop} {w w' : World} {b off : Nat} {xs : List Value} (h : Seg w b off xs) (f : Fr S w w') (hb : ¬ S b) : Seg w' b off xs := fun j v hj => by
  have h1 := h j v hj
  have hlt := World.block_lt_of_cell? w _ h1
  rw [World.cell?_of_block (f.block b hlt hb)]; exact h1
theorem View.fr {S : Nat → Prop} {w w' : World} {ao : Option Addr} {xs : List Value} (h : View w ao xs) (f : Fr S w w') (hb : ∀ b off, ao = some ⟨b, off, none⟩ → ¬ S b) : View w' ao xs := by
  rcases h with h | ⟨b, off, h1, h2⟩
  · exact .inl h
  · exact .inr ⟨b, off, h1, h2.fr f (hb b off h1)⟩
theorem View.fr0 {w w' : World} {ao : Option Addr} {xs : List Value} (h : View w ao xs) (f : Fr nob w w') : View w' ao xs := h.fr f (fun _ _ _ h => h)
theorem View.some {w : World} {ao : Option Addr} {xs : List Value} (h : View w ao xs) (hne : xs ≠ []) : ∃ b off, ao = some ⟨b, off, none⟩ ∧ Seg w b off xs := h.resolve_left hne
theorem own_view {w : World} {e : TypeId} {size : Nat} {ao : Option Addr} {n cap : Nat} {xs ys : List Value} (h : Own w e size ao n cap xs) (hp : ys = xs.take ys.length) : View w ao ys := by
  rcases h.2 with ⟨hv, hn⟩ | ⟨g, cap', cur, hv, _, hg, _⟩
  · left
    have : xs = [] := List.eq_nil_of_length_eq_zero (by rw [h.1, hn]; simp)
    rw [hp, this]; simp
  · simp only [Value.slice.injEq, true_and] at hv
    obtain ⟨rfl, rfl⟩ := hv
    refine .inr ⟨g, 0, rfl, fun j v hj => ?_⟩
    rw [Nat.zero_add]
    refine own_get h ?_
    rw [hp, List.getElem?_take] at hj
    split at hj
    · exact hj
    · cases hj

section
variable {P : Program} {w : World}
/-- copy into a slice of the call's own, from a slice. -/
theorem run_copy_into (dT sT ty e : TypeId) (i : TypeInfo) (size : Nat) (hu : P.underlying dT = some (.slice e)) (hi : P.info? e = some i) (hsz : i.size = size) (g n cap : Nat) (xs : List Value) (h : Own w e size (some ⟨g, 0, none⟩) n cap xs)
    (sa : Option Addr) (m c : Nat) (cs : List Value) (hv : View w sa cs) (hm : cs.length = m * size) (hle : m ≤ n) (h1 : ∀ v ∈ cs, v.oneCell' = true) (hz : sa = none → m = 0) (hs0 : 0 < size) :
    ∃ w', (Builtin.copy_ #[dT, sT] ty #[.slice (some ⟨g, 0, none⟩) n cap, .slice sa m c]).run P w = .ok (goInt m) w' ∧ Own w' e size (some ⟨g, 0, none⟩) n cap (cs ++ xs.drop (m * size)) ∧ Fr (fun k => k = g) w w' := by
  subst hsz
  rcases h.2 with ⟨hv', _⟩ | ⟨g', cap', cur, hv', hbg, hg, hnc, hcm, hcs, htake⟩
  · simp at hv'
  simp only [Value.slice.injEq, Option.some.injEq, Addr.mk.injEq, and_true, true_and] at hv'
  obtain ⟨rfl, rfl⟩ := hv'
  have hmin : Nat.min m n = m := Nat.min_eq_left hle
  have hfit : 0 + 0 + cs.length ≤ cur.size := by rw [hm, hcs]; simp only [Nat.zero_add]; exact Nat.mul_le_mul_right _ (by omega)
  have hst := run_storeCells_at P g 0 e cs 0 cur w hg hfit h1
  simp only [Nat.zero_add] at hst hfit
  have hload : (Builtin.firstCells i.size m (.slice sa m c)).run P w = .ok cs.toArray w := by
    rcases hv with rfl | ⟨b, off, rfl, hseg⟩
    · have hm0 : m = 0 := by
        rcases Nat.mul_eq_zero.1 hm.symm with h | h
        · exact h
        · omega
      subst hm0
      cases sa with
      | none => simp [Builtin.firstCells]
      | some a => simp [Builtin.firstCells, loadCells, loadCellsFrom]
    · exact run_firstCells_some (P := P) w i.size m ⟨b, off, none⟩ m c cs hm (fun j v hj => by rw [Addr.add_lit]; exact hseg j v hj)
  refine ⟨w.setRow g (cs ++ cur.toList.drop cs.length).toArray, ?_, ?_, ?_⟩
  · simp [Builtin.copy_, run_underlying hu, Builtin.lenOf, sizeOf, typeInfo, hi, hmin, hload, hst]
  · refine ⟨by rw [List.length_append, List.length_drop, h.1, hm, ← Nat.sub_mul, ← Nat.add_mul]; congr 1; omega, .inr ⟨g, cap, _, rfl, Nat.zero_le _, setRow_heap w g cur _ e _ hg, hnc, hcm, ?_, ?_⟩⟩
    · simp only [List.size_toArray, List.length_append, List.length_drop, Array.length_toList]; omega
    · simp only
      rw [List.take_append, hm, List.take_of_length_le (l := cs) (by rw [hm]; exact Nat.mul_le_mul_right _ hle), ← htake, List.drop_take]
  · exact ⟨rfl, rfl, rfl, by simp, fun k _ hk => setRow_other w g k _ hk⟩

/-- copy into a slice of the call's own, from a string. -/
theorem run_copy_str (dT sT ty e : TypeId) (i : TypeInfo) (hu : P.underlying dT = some (.slice e)) (hi : P.info? e = some i) (hsz : i.size = 1) (g n cap : Nat) (xs : List Value) (h : Own w e 1 (some ⟨g, 0, none⟩) n cap xs)
    (s : ByteArray) (hle : s.size ≤ n) :
    ∃ w', (Builtin.copy_ #[dT, sT] ty #[.slice (some ⟨g, 0, none⟩) n cap, .string s]).run P w = .ok (goInt s.size) w' ∧ Own w' e 1 (some ⟨g, 0, none⟩) n cap (bcs s ++ xs.drop s.size) ∧ Fr (fun k => k = g) w w' := by
  rcases h.2 with ⟨hv', _⟩ | ⟨g', cap', cur, hv', hbg, hg, hnc, hcm, hcs, htake⟩
  · simp at hv'
  simp only [Value.slice.injEq, Option.some.injEq, Addr.mk.injEq, and_true, true_and] at hv'
  obtain ⟨rfl, rfl⟩ := hv'
  have hmin : Nat.min s.size n = s.size := Nat.min_eq_left hle
  have hlen := bcs_len s
  have hl := h.1
  have hst := run_storeCells_at P g 0 e (bcs s) 0 cur w hg (by rw [hlen]; omega) (bcs_oneCell s)
  simp only [Nat.zero_add] at hst
  have htk : List.take s.size (List.map (fun b : UInt8 => Value.int IntKind.u8 (b.toNat : Int)) s.data.toList) = bcs s := by
    rw [List.take_of_length_le (by rw [List.length_map]; exact Nat.le_refl _)]; rfl
  refine ⟨w.setRow g (bcs s ++ cur.toList.drop (bcs s).length).toArray, ?_, ?_, ?_⟩
  · simp [Builtin.copy_, run_underlying hu, Builtin.lenOf, Builtin.firstCells, sizeOf, typeInfo, hi, hmin]
    rw [htk, hst]
    simp [Result.andThen]
  · refine ⟨by rw [List.length_append, List.length_drop, hl, hlen]; omega, .inr ⟨g, cap, _, rfl, Nat.zero_le _, setRow_heap w g cur _ e _ hg, hnc, hcm, ?_, ?_⟩⟩
    · simp only [List.size_toArray, List.length_append, List.length_drop, Array.length_toList]; omega
    · simp only
      rw [List.take_append, hlen, List.take_of_length_le (l := bcs s) (by rw [hlen]; omega), ← htake, List.drop_take]
  · exact ⟨rfl, rfl, rfl, by simp, fun k _ hk => setRow_other w g k _ hk⟩

theorem wpList_copy_run {ops : Array Oper} {rest : List Oper} {o : Oper} {a : Act} {Q : Exit → Act → World → Prop} (hgd : o.guard = none) (d s : Operand) (dT sT : TypeId)
    (ho : o.op = .call { callee := .builtin .copy, args := #[d, s], argTypes := #[dT, sT] }) (x y v : Value) (w' : World) (hd : a.eval d = x) (hs : a.eval s = y)
    (hrun : (Builtin.copy_ #[dT, sT] o.type #[x, y]).run P w = .ok v w') (h : wpList P ops Q rest (a.put o.dst v) w') : wpList P ops Q (o :: rest) a w := by
  refine wpList_plain hgd fun K hK => ?_
  unfold Oper.wp
  simp [execOp, ho, resolve, invoke, builtin, hd, hs, hrun, Result.andThen]
  exact hK _ _ h
end
end Go.Proofs.YtjgcfffepkmojaaGreat

namespace Go.Proofs.YtjgcfffepkmojaaGreat
open Go.RowKit
set_option linter.unusedVariables false

theorem made_rep (z : Array Value) (n s : Nat) (hs : z.size = s) (h0 : 0 < s) : (madeCells z (n * s)).toList = rep z.toList n := by
  subst hs
  apply List.ext_getElem?
  intro j
  by_cases hj : j < n * z.size
  · have h1 : j / z.size < n := (Nat.div_lt_iff_lt_mul h0).2 hj
    have h2 : j % z.size < z.toList.length := by simpa using Nat.mod_lt j h0
    have h3 := rep_get z.toList n (j / z.size) (j % z.size) h1 h2
    rw [show j / z.size * z.toList.length + j % z.size = j by simp only [Array.length_toList]; rw [Nat.mul_comm]; exact Nat.div_add_mod j z.size] at h3
    rw [h3]
    simp at h2
    simp [madeCells, hj, h2]
  · have hl := rep_len z.toList n
    simp only [Array.length_toList] at hl
    rw [List.getElem?_eq_none (by simp [madeCells]; omega), List.getElem?_eq_none (by omega)]
def zIns : Ins := ⟨0, 0, 0, 0⟩
theorem rep_flat (x : Ins) (n : Nat) : rep x.cs n = flat (List.replicate n x) := by
  induction n with
  | zero => rfl
  | succ n ih => rw [rep, ih, List.replicate_succ', flat_append, flat_one]
theorem rep_drop (r : List Value) (n m : Nat) : (rep r (n + m)).drop (n * r.length) = rep r m := by
  induction m with
  | zero => rw [Nat.add_zero, List.drop_of_length_le (by rw [rep_len]; exact Nat.le_refl _)]; rfl
  | succ m ih =>
    rw [← Nat.add_assoc, rep, rep, List.drop_append_of_le_length (by rw [rep_len]; exact Nat.mul_le_mul_right _ (by omega)), ih]
theorem hide {p : Prop} (h : p) : Hid p := h
def b201 (n : Nat) : List Value := List.replicate n (.int .u8 201)

set_option maxRecDepth 100000 in
set_option maxHeartbeats 1000000 in
theorem lent_any (w : World) (s : ByteArray) (hs : s.size ≤ 140737488351232) :
    Calls Tryz.prog 22 #[.string s] w fun e w' => e = .returned (.slice (some ⟨w.heap.size, 0, none⟩) (s.size + 8) (s.size + 8)) ∧
      Own w' 5 1 (some ⟨w.heap.size, 0, none⟩) (s.size + 8) (s.size + 8) (bcs s ++ b201 8) ∧ Fr nob w w' := by
  obtain ⟨i0, hi, hz0, hz1, hz2⟩ := info_parts info_u8
  go_enter Tryz.func22, Tryz.ntmps22
  go_wp2_with (at_make; refine wpList_make_full _ rfl _ _ 32 rfl 0 5 i0 (.int .u8 0) 1 Tryz.underlying32 hi hz0 hz1 _ _ _ _ (s.size + 8) rfl rfl (by omega) (by omega) ?b1 ?b2 ?b3 ?_)
  case b1 => rw [hz2]; omega
  case b2 => unfold maxLen; omega
  case b3 => omega
  intro w1 o1 g1
  have f1 : Fr nob w w1 := (Fr.refl _ w).grown g1 (fun k _ h => by cases h)
  have hlt1 : w.heap.size < w1.heap.size := own_lt o1 (by simp [bk, Value.ownBlock])
  obtain ⟨w2, hrun, o2, f2⟩ := run_copy_str (P := Tryz.prog) (w := w1) 32 9 3 5 i0 Tryz.underlying32 hi hz1 w.heap.size (s.size + 8) (s.size + 8) _ o1 s (by omega)
  have hz8 : (madeCells #[Value.int .u8 0] (s.size + 8)).toList.drop s.size = List.replicate 8 (.int .u8 0) := by
    rw [toList_madeCells_one, List.drop_replicate, Nat.add_sub_cancel_left]
  rw [hz8] at o2
  have f12 : Fr nob w w2 := f1.step f2 (fun k hk e => by omega)
  clear hz8 o1 g1 f1
  go_wp2_with (at_builtin; refine wpList_copy_run rfl _ _ 32 9 rfl _ _ _ w2 rfl rfl hrun ?_)
  clear hrun
  have hlt2 : w.heap.size < w2.heap.size := own_lt o2 (by simp [bk, Value.ownBlock])
  have hsz : s.size = (bcs s).length := (bcs_len s).symm
  go_loopw [4] (fun i wr => ∃ j : Nat, j ≤ 8 ∧ i = .int .i64 (s.size + j : Nat) ∧ Own wr 5 1 (some ⟨w.heap.size, 0, none⟩) (s.size + 8) (s.size + 8) (bcs s ++ b201 j ++ List.replicate (8 - j) (.int .u8 0)) ∧ Fr nob w wr) (fun i _ => s.size + 8 - (intOf i).toNat)
  case atStart => exact ⟨0, by omega, by simp, by simpa [b201] using o2, f12⟩
  case round =>
    clear o2 f12 f2 hlt2
    obtain ⟨j, hj, rfl, o, f⟩ := hrel
    have HS := hide hsz
    clear hsz
    by_cases hlt : j < 8
    · have hu : wr.cell? ⟨w.heap.size, s.size + j, none⟩ = some (.int .u8 0) := own_get o (by
        rw [List.getElem?_append_right (by simp [bcs_len, b201])]
        simp only [List.length_append, bcs_len, b201, List.length_replicate]
        rw [List.getElem?_replicate, if_pos (by omega)])
      have hfz : wr.frozen? ⟨w.heap.size, s.size + j, none⟩ = false := o.frozenAt _
      have o' := own_set1 (p := s.size + j) o (by simp; omega) (by simp [bcs_len, b201]) (.int .u8 201)
      have o2 : Own (wr.setCell ⟨w.heap.size, s.size + j, none⟩ (.int .u8 201)) 5 1 (some ⟨w.heap.size, 0, none⟩) (s.size + 8) (s.size + 8) (bcs s ++ b201 (j + 1) ++ List.replicate (8 - (j + 1)) (.int .u8 0)) := by
        rw [b201, List.drop_replicate] at o'
        rw [b201, List.replicate_succ', ← List.append_assoc]
        rw [Nat.sub_sub] at o'
        exact o'
      have f2 : Fr nob w (wr.setCell ⟨w.heap.size, s.size + j, none⟩ (.int .u8 201)) := f.setCell (p := ⟨w.heap.size, s.size + j, none⟩) (fun h => absurd h (Nat.lt_irrefl _)) _
      clear o o' f
      go_wp2
      go_roundw
      case rel => exact ⟨j + 1, by omega, by go_num, o2, f2⟩
      case measure => simp [intOf]; omega
    · have hj8 : j = 8 := by omega
      subst hj8
      go_wp2
      go_ret
      exact ⟨rfl, by simpa using o, f⟩
#print axioms lent_any
end Go.Proofs.YtjgcfffepkmojaaGreat

namespace Go.Proofs.YtjgcfffepkmojaaGreat
open Go.RowKit
set_option linter.unusedVariables false

set_option maxRecDepth 100000 in
set_option maxHeartbeats 1000000 in
theorem program_any (w : World) (ao : Option Addr) (cap : Nat) (l : List Ins) (hv : View w ao (flat l)) (hz : ao = none → l.length = 0) (hs : l.length ≤ 17592186043904) :
    Calls Tryz.prog 21 #[.slice ao l.length cap] w fun e w' => e = .returned (.slice (some ⟨w.heap.size, 0, none⟩) (l.length + 8) (l.length + 8)) ∧
      Own w' 29 4 (some ⟨w.heap.size, 0, none⟩) (l.length + 8) (l.length + 8) (flat (l ++ List.replicate 8 zIns)) ∧ Fr nob w w' := by
  obtain ⟨i0, hi, hz0, hz1, hz2⟩ := info_parts info_insn
  go_enter Tryz.func21, Tryz.ntmps21
  go_wp2_with (at_make; refine wpList_make_full _ rfl _ _ 30 rfl 0 29 i0 _ 4 Tryz.underlying30 hi hz0 hz1 _ _ _ _ (l.length + 8) rfl rfl (by omega) (by omega) ?b1 ?b2 ?b3 ?_)
  case b1 => rw [hz2]; omega
  case b2 => unfold maxLen; omega
  case b3 => omega
  intro w1 o1 g1
  have f1 : Fr nob w w1 := (Fr.refl _ w).grown g1 (fun k _ h => by cases h)
  have hlt1 : w.heap.size < w1.heap.size := own_lt o1 (by simp [bk, Value.ownBlock])
  obtain ⟨w2, hrun, o2, f2⟩ := run_copy_into (P := Tryz.prog) (w := w1) 30 30 3 29 i0 4 Tryz.underlying30 hi hz1 w.heap.size (l.length + 8) (l.length + 8) _ o1 ao l.length cap (flat l) (hv.fr0 f1) (flat_len l) (by omega) (flat_oneCell l) hz (by decide)
  have hz8 : (madeCells #[Value.int .u16 0, Value.int .u8 0, Value.int .u8 0, Value.int .u32 0] ((l.length + 8) * 4)).toList.drop (l.length * 4) = flat (List.replicate 8 zIns) := by
    rw [made_rep #[Value.int .u16 0, Value.int .u8 0, Value.int .u8 0, Value.int .u32 0] (l.length + 8) 4 rfl (by decide), ← rep_flat]
    exact rep_drop zIns.cs l.length 8
  rw [hz8, ← flat_append] at o2
  have f12 : Fr nob w w2 := f1.step f2 (fun k hk e => by omega)
  clear hz8 o1 g1 f1
  go_wp2_with (at_builtin; refine wpList_copy_run rfl _ _ 30 30 rfl _ _ _ w2 rfl rfl hrun ?_)
  go_ret
  exact ⟨rfl, o2, f12⟩

set_option maxRecDepth 100000 in
set_option maxHeartbeats 1000000 in
theorem still_any (w : World) (g cap : Nat) (s : ByteArray) (hs : s.size ≤ 140737488351232) (h : Own w 5 1 (some ⟨g, 0, none⟩) (s.size + 8) cap (bcs s ++ b201 8)) :
    Calls Tryz.prog 26 #[.slice (some ⟨g, 0, none⟩) (s.size + 8) cap, .string s] w fun e w' => e = .returned (.bool true) ∧ Fr nob w w' := by
  go_enter Tryz.func26, Tryz.ntmps26
  go_wp2_with fail
  go_loopw [5] (fun i wr => ∃ k : Nat, k ≤ s.size + 8 ∧ i = .int .i64 k ∧ Fr nob w wr) (fun i _ => s.size + 8 - (intOf i).toNat)
  case atStart => exact ⟨0, Nat.zero_le _, rfl, Fr.refl _ _⟩
  case round =>
    obtain ⟨k, hk, rfl, f⟩ := hrel
    have hw := own_fr h f (fun _ _ h => h)
    by_cases hlt : k < s.size + 8
    · by_cases h1 : k < s.size
      · have hu : wr.cell? ⟨g, k, none⟩ = some (.int .u8 (s[k]'h1).toNat) := own_get hw (by rw [List.getElem?_append_left (by rw [bcs_len]; exact h1)]; exact bcs_get s k h1)
        have hd : decide (s.size ≤ k) = false := by simp; omega
        clear hw
        go_wp2_with fail
        go_quiet (fail)
        go_wp2
        go_roundw
        case rel => exact ⟨k + 1, by omega, by go_num, f.drewN _⟩
        case measure => simp [intOf]; omega
      · have hu : wr.cell? ⟨g, k, none⟩ = some (.int .u8 201) := own_get hw (by rw [List.getElem?_append_right (by rw [bcs_len]; omega), bcs_len, b201, List.getElem?_replicate, if_pos (by omega)])
        have hd : decide ((k : Int) < (s.size : Int)) = false := by simp; omega
        have hge : (s.size : Int) ≤ (k : Int) := by omega
        clear hw
        go_wp2_with fail
        go_quiet (fail)
        go_wp2
        go_roundw
        case rel => exact ⟨k + 1, by omega, by go_num, f.drewN _⟩
        case measure => simp [intOf]; omega
    · go_wp2
      go_ret
      exact ⟨rfl, f⟩

/-- Seg's cells at an instruction's place. -/
theorem Seg.ins {w : World} {b off : Nat} {l : List Ins} (h : Seg w b off (flat l)) (k : Nat) (hk : k < l.length) :
    w.cell? ⟨b, off + k * 4, none⟩ = some (.int .u16 (l[k]).code) ∧ w.cell? ⟨b, off + k * 4 + 1, none⟩ = some (.int .u8 (l[k]).jt) ∧ w.cell? ⟨b, off + k * 4 + 2, none⟩ = some (.int .u8 (l[k]).jf) ∧ w.cell? ⟨b, off + k * 4 + 3, none⟩ = some (.int .u32 (l[k]).k) := by
  refine ⟨?_, ?_, ?_, ?_⟩
  · exact h (k * 4 + 0) _ ((flat_get l k 0 hk (by decide)).trans rfl)
  · exact h (k * 4 + 1) _ ((flat_get l k 1 hk (by decide)).trans rfl)
  · exact h (k * 4 + 2) _ ((flat_get l k 2 hk (by decide)).trans rfl)
  · exact h (k * 4 + 3) _ ((flat_get l k 3 hk (by decide)).trans rfl)
theorem own_ins {w : World} {g n cap : Nat} {l : List Ins} (h : Own w 29 4 (some ⟨g, 0, none⟩) n cap (flat l)) (k : Nat) (hk : k < l.length) :
    w.cell? ⟨g, k * 4, none⟩ = some (.int .u16 (l[k]).code) ∧ w.cell? ⟨g, k * 4 + 1, none⟩ = some (.int .u8 (l[k]).jt) ∧ w.cell? ⟨g, k * 4 + 2, none⟩ = some (.int .u8 (l[k]).jf) ∧ w.cell? ⟨g, k * 4 + 3, none⟩ = some (.int .u32 (l[k]).k) := by
  refine ⟨?_, ?_, ?_, ?_⟩
  · exact own_get h ((flat_get l k 0 hk (by decide)).trans rfl)
  · exact own_get h ((flat_get l k 1 hk (by decide)).trans rfl)
  · exact own_get h ((flat_get l k 2 hk (by decide)).trans rfl)
  · exact own_get h ((flat_get l k 3 hk (by decide)).trans rfl)

set_option maxRecDepth 100000 in
set_option maxHeartbeats 1000000 in
theorem kept_any (w : World) (g cap : Nat) (ao : Option Addr) (cap' : Nat) (l : List Ins) (hs : l.length ≤ 17592186043904) (h : Own w 29 4 (some ⟨g, 0, none⟩) (l.length + 8) cap (flat (l ++ List.replicate 8 zIns))) (hv : View w ao (flat l)) :
    Calls Tryz.prog 33 #[.slice (some ⟨g, 0, none⟩) (l.length + 8) cap, .slice ao l.length cap'] w fun e w' => e = .returned (.bool true) ∧ Fr nob w w' := by
  go_enter Tryz.func33, Tryz.ntmps33
  go_wp2_with fail
  go_loopw [5] (fun i wr => ∃ k : Nat, k ≤ l.length + 8 ∧ i = .int .i64 k ∧ Fr nob w wr) (fun i _ => l.length + 8 - (intOf i).toNat)
  case atStart => exact ⟨0, Nat.zero_le _, rfl, Fr.refl _ _⟩
  case round =>
    obtain ⟨k, hk, rfl, f⟩ := hrel
    have hw := own_fr h f (fun _ _ h => h)
    by_cases hlt : k < l.length + 8
    · obtain ⟨u0, u1, u2, u3⟩ := own_ins hw k (by simp; omega)
      by_cases h1 : k < l.length
      · obtain ⟨b, off, hao, hseg⟩ := (hv.fr0 f).some (by intro e; have := flat_len l; rw [e] at this; simp at this; omega)
        subst hao
        obtain ⟨v0, v1, v2, v3⟩ := hseg.ins k h1
        rw [List.getElem_append_left h1] at u0 u1 u2 u3
        have hd : decide (l.length ≤ k) = false := by simp; omega
        clear hw hseg hv
        go_wp2_with fail
        go_quiet (fail)
        go_wp2
        go_roundw
        case rel => exact ⟨k + 1, by omega, by go_num, f.drewN _⟩
        case measure => simp [intOf]; omega
      · rw [List.getElem_append_right (by omega), List.getElem_replicate] at u0 u1 u2 u3
        simp only [zIns] at u0 u1 u2 u3
        have hd : decide ((k : Int) < (l.length : Int)) = false := by simp; omega
        have hge : (l.length : Int) ≤ (k : Int) := by omega
        clear hw hv
        go_wp2_with fail
        go_quiet (fail)
        go_wp2
        go_roundw
        case rel => exact ⟨k + 1, by omega, by go_num, f.drewN _⟩
        case measure => simp [intOf]; omega
    · go_wp2
      go_ret
      exact ⟨rfl, f⟩

/-- 'same', of equal lists. -/
theorem same_any (w : World) (ao ao' : Option Addr) (cap cap' : Nat) (l : List Ins) (hs : l.length ≤ 17592186043904) (hv : View w ao (flat l)) (hv' : View w ao' (flat l)) :
    Calls Tryz.prog 25 #[.slice ao l.length cap, .slice ao' l.length cap'] w fun e w' => e = .returned (.bool true) ∧ Fr nob w w' := by
  go_enter Tryz.func25, Tryz.ntmps25
  go_wp2_with fail
  go_loopw [5] (fun i wr => ∃ k : Nat, k ≤ l.length ∧ i = .int .i64 k ∧ Fr nob w wr) (fun i _ => l.length - (intOf i).toNat)
  case atStart => exact ⟨0, Nat.zero_le _, rfl, Fr.refl _ _⟩
  case round =>
    obtain ⟨k, hk, rfl, f⟩ := hrel
    by_cases h1 : k < l.length
    · have hne : flat l ≠ [] := by intro e; have := flat_len l; rw [e] at this; simp at this; omega
      obtain ⟨b, off, rfl, hseg⟩ := (hv.fr0 f).some hne
      obtain ⟨b', off', rfl, hseg'⟩ := (hv'.fr0 f).some hne
      obtain ⟨v0, v1, v2, v3⟩ := hseg.ins k h1
      obtain ⟨u0, u1, u2, u3⟩ := hseg'.ins k h1
      clear hseg hseg' hv hv'
      go_wp2_with fail
      go_quiet (fail)
      go_wp2
      go_roundw
      case rel => exact ⟨k + 1, by omega, by go_num, f.drewN _⟩
      case measure => simp [intOf]; omega
    · go_wp2
      go_ret
      exact ⟨rfl, f⟩
#print axioms same_any
end Go.Proofs.YtjgcfffepkmojaaGreat
