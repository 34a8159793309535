import Derived.Test.YtjgcfffepkmojaaGreatCProg
import Derived.Test.YtjgcfffepkmojaaGreatRNext
import Derived.ChangeKeysEq
import Derived.Deep.MidRow
import Derived.Deep.LoopGhost
import Derived.Deep.RegionHeld3
import Derived.BigQuiet
import Derived.Deep.DeepCutAuto
import Derived.Deep.WholeRow
namespace Go.Proofs.YtjgcfffepkmojaaGreat
open Go.RowKit
set_option linter.unusedVariables false

/-- Which cells are set, as the reference holds them. -/
def bts (S : Nat) : List Value := (List.range 16).map (fun j => .bool (S.testBit j))
/-- Half way through the meeting of two. -/
def mx (R U c : Nat) : List Value := (List.range 16).map (fun j => .bool (if j < c then R.testBit j && U.testBit j else R.testBit j))
def scs : Option Nat → List Value
  | none => .bool false :: bts 0
  | some S => .bool true :: bts S
theorem bts_len (S : Nat) : (bts S).length = 16 := by simp [bts]
theorem mx_len (R U c : Nat) : (mx R U c).length = 16 := by simp [mx]
theorem scs_len (o : Option Nat) : (scs o).length = 17 := by cases o <;> simp [scs, bts_len]
theorem bts_get (S j : Nat) (h : j < 16) : (bts S)[j]? = some (.bool (S.testBit j)) := by simp [bts, h]
theorem mx_get (R U c j : Nat) (h : j < 16) : (mx R U c)[j]? = some (.bool (if j < c then R.testBit j && U.testBit j else R.testBit j)) := by simp [mx, h]
theorem mx_zero (R U : Nat) : mx R U 0 = bts R := by simp [mx, bts]
theorem mx_end (R U : Nat) : mx R U 16 = bts (R &&& U) := by
  apply List.ext_getElem?
  intro j
  by_cases h : j < 16
  · rw [mx_get _ _ _ _ h, bts_get _ _ h, if_pos h, Nat.testBit_and]
  · rw [List.getElem?_eq_none (by rw [mx_len]; omega), List.getElem?_eq_none (by rw [bts_len]; omega)]
theorem mx_set (R U c : Nat) (h : c < 16) : (mx R U c).set c (.bool (R.testBit c && U.testBit c)) = mx R U (c + 1) := by
  apply List.ext_getElem?
  intro j
  by_cases hj : j < 16
  · rw [List.getElem?_set, mx_get _ _ _ _ hj, mx_get _ _ _ _ hj]
    by_cases e : c = j
    · subst e; simp [mx_len, hj]
    · rw [if_neg e]
      by_cases h2 : j < c
      · rw [if_pos h2, if_pos (by omega)]
      · rw [if_neg h2, if_neg (by omega)]
  · rw [List.getElem?_eq_none (by simp [mx_len]; omega), List.getElem?_eq_none (by rw [mx_len]; omega)]
theorem bts_set (S c : Nat) (h : c < 16) : (bts S).set c (.bool true) = bts (S ||| 1 <<< c) := by
  apply List.ext_getElem?
  intro j
  by_cases hj : j < 16
  · rw [List.getElem?_set, bts_get _ _ hj, bts_get _ _ hj]
    rw [Nat.testBit_or, Nat.shiftLeft_eq, Nat.one_mul, Nat.testBit_two_pow]
    by_cases e : c = j
    · subst e; simp [bts_len, hj]
    · rw [if_neg e]; simp [e]
  · rw [List.getElem?_eq_none (by simp [bts_len]; omega), List.getElem?_eq_none (by rw [bts_len]; omega)]

/-- Rows of seventeen cells. -/
def rws (f : Nat → List Value) : Nat → List Value
  | 0 => []
  | n + 1 => rws f n ++ f n
theorem rws_len {f : Nat → List Value} (hf : ∀ x, (f x).length = 17) (n : Nat) : (rws f n).length = n * 17 := by
  induction n with
  | zero => rfl
  | succ n ih => simp [rws, ih, hf]; omega
theorem rws_get {f : Nat → List Value} (hf : ∀ x, (f x).length = 17) (n x j : Nat) (hx : x < n) (hj : j < 17) : (rws f n)[x * 17 + j]? = (f x)[j]? := by
  induction n with
  | zero => omega
  | succ n ih =>
    have hl := rws_len hf n
    rw [rws]
    by_cases h : x < n
    · rw [List.getElem?_append_left (by omega)]; exact ih h
    · have : x = n := by omega
      subst this
      rw [List.getElem?_append_right (by omega), hl, Nat.add_sub_cancel_left]
/-- One row, anew. -/
def upd (f : Nat → List Value) (t : Nat) (r : List Value) : Nat → List Value := fun y => if y = t then r else f y
theorem upd_len {f : Nat → List Value} (hf : ∀ x, (f x).length = 17) {t : Nat} {r : List Value} (hr : r.length = 17) : ∀ x, (upd f t r x).length = 17 := fun x => by
  unfold upd; split
  · exact hr
  · exact hf x
theorem upd_at (f : Nat → List Value) (t : Nat) (r : List Value) : upd f t r t = r := by simp [upd]
theorem upd_upd (f : Nat → List Value) (t : Nat) (r q : List Value) : upd (upd f t r) t q = upd f t q := by
  funext y; unfold upd; split <;> rfl
theorem upd_self (f : Nat → List Value) (t : Nat) : upd f t (f t) = f := by
  funext y; unfold upd; split
  · rename_i e; rw [e]
  · rfl
theorem rws_set {f : Nat → List Value} (hf : ∀ x, (f x).length = 17) (n x j : Nat) (v : Value) (hx : x < n) (hj : j < 17) : (rws f n).set (x * 17 + j) v = rws (upd f x ((f x).set j v)) n := by
  have hu := upd_len hf (t := x) (r := (f x).set j v) (by simp [hf])
  apply List.ext_getElem?
  intro z
  by_cases hz : z < n * 17
  · have h1 := rws_get hf n (z / 17) (z % 17) (by omega) (Nat.mod_lt _ (by decide))
    have h2 := rws_get hu n (z / 17) (z % 17) (by omega) (Nat.mod_lt _ (by decide))
    rw [show z / 17 * 17 + z % 17 = z by omega] at h1 h2
    rw [h2, List.getElem?_set]
    unfold upd
    by_cases e1 : x * 17 + j = z
    · rw [if_pos e1, if_pos (by rw [rws_len hf]; omega), if_pos (by omega), List.getElem?_set, if_pos (by omega), if_pos (by rw [hf]; exact hj)]
    · rw [if_neg e1, h1]
      by_cases e0 : z / 17 = x
      · rw [if_pos e0, List.getElem?_set, if_neg (by omega), e0]
      · rw [if_neg e0]
  · rw [List.getElem?_eq_none (by simp [rws_len hf]; omega), List.getElem?_eq_none (by rw [rws_len hu]; omega)]
theorem rws_rep (n : Nat) : rws (fun _ => scs none) n = rep (scs none) n := by
  induction n with
  | zero => rfl
  | succ n ih => rw [rws, rep, ih]

/-! ### Two states compared -/
theorem bool_under : Tryz.prog.underlying 4 = some .bool := by kernel_rfl
theorem eqItems_bool (d : Nat) (xs ys : Array Value) : ∀ is : List Nat, (∀ i ∈ is, ∃ a b : Bool, xs[i]? = some (.bool a) ∧ ys[i]? = some (.bool b)) →
    ∃ r, (∀ w, (Op.eqItems (d + 1) 4 1 xs ys is).run Tryz.prog w = .ok r w) ∧ ((∀ i ∈ is, xs[i]? = ys[i]?) → r = true)
  | [], _ => ⟨true, fun w => by simp [Op.eqItems], fun _ => rfl⟩
  | i :: is, h => by
    obtain ⟨a, b, ha, hb⟩ := h i (List.mem_cons_self ..)
    obtain ⟨r, hr, hi⟩ := eqItems_bool d xs ys is (fun j hj => h j (List.mem_cons_of_mem _ hj))
    have he : Tryz.prog.plainKey 4 = true := by kernel_rfl
    have p1 : ∀ w, (part 4 xs (i * 1)).run Tryz.prog w = .ok (.bool a) w := fun w => run_part_plain w he (by rw [Nat.mul_one]; exact ha)
    have p2 : ∀ w, (part 4 ys (i * 1)).run Tryz.prog w = .ok (.bool b) w := fun w => run_part_plain w he (by rw [Nat.mul_one]; exact hb)
    have p3 : ∀ w, (Op.equalIn (d + 1) 4 (.bool a) (.bool b)).run Tryz.prog w = .ok (a == b) w := fun w => run_equalIn_bool w d 4 a b bool_under
    cases hab : (a == b) with
    | false =>
      refine ⟨false, fun w => by simp only [Op.eqItems, Sem.run_bind, p1, p2, p3, Result.andThen_ok, hab]; simp, fun hall => ?_⟩
      have := hall i (List.mem_cons_self ..)
      rw [ha, hb] at this
      simp only [Option.some.injEq, Value.bool.injEq] at this
      simp [this] at hab
    | true => exact ⟨r, fun w => by simp only [Op.eqItems, Sem.run_bind, p1, p2, p3, Result.andThen_ok, hab]; simpa using hr w, fun hall => hi (fun j hj => hall j (List.mem_cons_of_mem _ hj))⟩
theorem part_set (b : Bool) (S : Nat) (w : World) : (part 109 (.bool b :: bts S).toArray 1).run Tryz.prog w = .ok (.agg (bts S).toArray) w := by kernel_rfl
theorem part_head (b : Bool) (S : Nat) (w : World) : (part 4 (.bool b :: bts S).toArray 0).run Tryz.prog w = .ok (.bool b) w := by kernel_rfl
theorem state_fields0 : (Tryz.prog.fieldsOf 111).toList.map (fun f => (decide (f.name = "_"), f.type, f.offset)) = [(false, 4, 0), (false, 109, 1)] := by kernel_rfl
theorem state_fields : ∃ f g : Field, (Tryz.prog.fieldsOf 111).toList = [f, g] ∧ f.name ≠ "_" ∧ f.type = 4 ∧ f.offset = 0 ∧ g.name ≠ "_" ∧ g.type = 109 ∧ g.offset = 1 := by
  have h := state_fields0
  generalize (Tryz.prog.fieldsOf 111).toList = fs at h
  rcases fs with _ | ⟨f, _ | ⟨g, _ | ⟨x, r⟩⟩⟩
  · simp at h
  · simp at h
  · simp only [List.map_cons, List.map_nil, List.cons.injEq, Prod.mk.injEq, decide_eq_false_iff_not, and_true] at h
    exact ⟨f, g, rfl, h.1.1, h.1.2.1, h.1.2.2, h.2.1, h.2.2.1, h.2.2.2⟩
  · simp at h
theorem set_under : Tryz.prog.underlying 109 = some (.array 16 4) := by kernel_rfl
theorem bool_info : ∃ i, Tryz.prog.info? 4 = some i := by
  have h : (Tryz.prog.info? 4).isSome = true := by kernel_rfl
  exact Option.isSome_iff_exists.1 h
theorem cells_bool : Tryz.prog.cellsOf 4 = 1 := by kernel_rfl
theorem state_under : Tryz.prog.underlying 111 = some (.struct (Tryz.prog.fieldsOf 111)) := by kernel_rfl
theorem state_stood : Tryz.prog.stoodInHeld 111 = false := by kernel_rfl
theorem eq_set (d S R : Nat) : ∃ r, (∀ w, (Op.equalIn (d + 2) 109 (.agg (bts S).toArray) (.agg (bts R).toArray)).run Tryz.prog w = .ok r w) ∧ (bts S = bts R → r = true) := by
  obtain ⟨i, hi⟩ := bool_info
  obtain ⟨r, hr, hrr⟩ := eqItems_bool d (bts S).toArray (bts R).toArray (List.range 16) (fun j hj => by
    have hj' := List.mem_range.1 hj
    exact ⟨S.testBit j, R.testBit j, by rw [List.getElem?_toArray, bts_get _ _ hj'], by rw [List.getElem?_toArray, bts_get _ _ hj']⟩)
  refine ⟨r, fun w => ?_, fun e => hrr (fun j _ => by rw [e])⟩
  rw [run_equalIn_array w (d + 1) _ _ set_under hi, cells_bool]
  exact hr w
theorem eq_state (d : Nat) (a b : Bool) (S R : Nat) : ∃ r, (∀ w, (Op.equalIn (d + 3) 111 (.agg (.bool a :: bts S).toArray) (.agg (.bool b :: bts R).toArray)).run Tryz.prog w = .ok r w) ∧ (a = b → bts S = bts R → r = true) := by
  obtain ⟨f, g, hf, f1, f2, f3, g1, g2, g3⟩ := state_fields
  obtain ⟨r, hr, hrr⟩ := eq_set d S R
  refine ⟨(a == b) && r, fun w => ?_, fun e1 e2 => by simp [e1, hrr e2]⟩
  rw [run_equalIn_struct w (d + 2) 111 _ _ state_under state_stood, hf]
  simp only [Op.eqFields, f1, f2, f3, g1, g2, g3, ne_eq, not_false_eq_true, if_true, Sem.run_bind, part_head, Result.andThen_ok, run_equalIn_bool w (d + 1) 4 a b bool_under]
  cases hab : (a == b) <;> cases r <;> simp [part_set, hr]
/-- Are two states not the same? -/
theorem neq_state (o p : Option Nat) : ∃ r, (∀ w, (binOp .neq 111 (.agg (scs o).toArray) (.agg (scs p).toArray)).run Tryz.prog w = .ok (.bool r) w) ∧ (o = p → r = false) := by
  have key : ∀ (a b : Bool) (S R : Nat), ∃ r, (∀ w, (binOp .neq 111 (.agg (.bool a :: bts S).toArray) (.agg (.bool b :: bts R).toArray)).run Tryz.prog w = .ok (.bool r) w) ∧ (a = b → S = R → r = false) := fun a b S R => by
    obtain ⟨r, hr, hrr⟩ := eq_state 9997 a b S R
    refine ⟨!r, fun w => ?_, fun e1 e2 => by simp [hrr e1 (by rw [e2])]⟩
    rw [run_neq_struct, hr w]; rfl
  cases o with
  | none =>
    cases p with
    | none => obtain ⟨r, h1, h2⟩ := key false false 0 0; exact ⟨r, h1, fun _ => h2 rfl rfl⟩
    | some R => obtain ⟨r, h1, h2⟩ := key false true 0 R; exact ⟨r, h1, fun e => by cases e⟩
  | some S =>
    cases p with
    | none => obtain ⟨r, h1, h2⟩ := key true false S 0; exact ⟨r, h1, fun e => by cases e⟩
    | some R => obtain ⟨r, h1, h2⟩ := key true true S R; exact ⟨r, h1, fun e => h2 rfl (Option.some.inj e)⟩
#print axioms neq_state
end Go.Proofs.YtjgcfffepkmojaaGreat

namespace Go.Proofs.YtjgcfffepkmojaaGreat
open Go.RowKit
set_option linter.unusedVariables false

theorem info_state : (Tryz.prog.info? 111).map (fun i => (i.zero, i.size, i.bytes)) = some (some (.agg (scs none).toArray), 17, 17) := by kernel_rfl
/-- All states, as cells. -/
abbrev srw (st : Nat → Option Nat) : Nat → List Value := rws (fun x => scs (st x))
theorem srw_len (st : Nat → Option Nat) (x : Nat) : (scs (st x)).length = 17 := scs_len _
abbrev OwnS (w : World) (g n : Nat) (f : Nat → List Value) : Prop := Own w 111 17 (some ⟨g, 0, none⟩) n n (rws f n)
theorem OwnS.cell {w : World} {g n : Nat} {f : Nat → List Value} (o : OwnS w g n f) (hf : ∀ x, (f x).length = 17) {t j : Nat} {v : Value} (ht : t < n) (hj : (f t)[j]? = some v) : w.cell? ⟨g, t * 17 + j, none⟩ = some v := by
  have : j < 17 := by have := (List.getElem?_eq_some_iff.1 hj).1; rw [hf] at this; exact this
  exact own_get o ((rws_get hf n t j ht this).trans hj)
theorem OwnS.set {w : World} {g n : Nat} {f : Nat → List Value} (o : OwnS w g n f) (hf : ∀ x, (f x).length = 17) {t j : Nat} (v : Value) (ht : t < n) (hj : j < 17) : OwnS (w.setCell ⟨g, t * 17 + j, none⟩ v) g n (upd f t ((f t).set j v)) := by
  have h1 := (World.ownsRow.stored o (t * 17 + j) v).1
  rw [rws_set hf n t j v ht hj] at h1
  exact h1
theorem srw_first (l : List Ins) : upd (fun _ => scs none) 0 ((scs none).set 0 (.bool true)) = fun x => scs (pst l 0 x) := by
  funext x
  unfold upd
  simp only [pst, Flow.pass]
  split
  · rfl
  · rfl

/-- A pass: from what it starts, and what it makes. -/
structure Pas (l : List Ins) (q : Nat → Nat → Option Nat) (fixed : Prop) : Prop where
  next : ∀ n, n < l.length → q (n + 1) = Flow.stp (sc l) (ou l) (q n) n
  lt : ∀ n, n ≤ l.length → ∀ x R, q n x = some R → R < 65536
  fin : q l.length = pst l l.length
  fix : fixed → ∀ n, n < l.length → ∀ S, q n n = some S → ∀ j ∈ sc l n, ∃ T, q n j = some T ∧ T &&& ou l n S = T
theorem pas_one {l : List Ins} (h : Good l) : Pas l (pst l) False := ⟨fun n hn => rfl, fun n hn => h.lt n hn, rfl, fun e => e.elim⟩
theorem pas_two {l : List Ins} (h : Good l) : Pas l (fun _ => pst l l.length) True :=
  ⟨fun n hn => (Flow.pass_again (sc_fwd l) l.length n hn).symm, fun n hn => h.lt _ (Nat.le_refl _), rfl, fun _ n hn S hS => Flow.pass_stable (sc_fwd l) l.length n hn S hS⟩


/-! ### Whole rows -/
theorem st_new {ops : Array Oper} {rest : List Oper} {o : Oper} {a : Act} {wr : World} {Q : Exit → Act → World → Prop} (hgd : o.guard = none) (ty : TypeId) (x y : Operand) (ho : o.op = .store ty x y)
    (old cells : Array Value) (hx : a.eval x = .pointer (some ⟨wr.heap.size, 0, none⟩)) (hy : a.eval y = .agg cells) (hi : (Tryz.prog.info? ty).map (·.size) = some cells.size)
    (hold : old.size = cells.size) (h1 : cells.all (·.oneCell') = true)
    (h : ∀ w2, w2.heap[wr.heap.size]? = some (.cells cells ty) → Fr nob wr w2 → w2.heap.size = wr.heap.size + 1 → wpList Tryz.prog ops Q rest (a.put o.dst undef) w2) :
    wpList Tryz.prog ops Q (o :: rest) a (wr.alloc (.cells old ty)) := by
  have hg := heap_alloc_new wr (.cells old ty)
  refine wpList_store_row hgd ty x y ho wr.heap.size cells hx hy ty old hg hi hold h1 ?_
  rw [World.setRow_alloc_new]
  exact h _ (heap_alloc_new wr _) ((Fr.refl nob wr).alloc _) (by simp)
theorem bts_one (S : Nat) : ∀ v ∈ bts S, v.oneCell' = true := fun v hv => by
  simp only [bts, List.mem_map] at hv
  obtain ⟨j, _, rfl⟩ := hv
  rfl
theorem bts_all (S : Nat) : (bts S).toArray.all (·.oneCell') = true := all_oneCell_toArray (bts_one S)
theorem scs_all (o : Option Nat) : (scs o).toArray.all (·.oneCell') = true := all_oneCell_toArray (fun v hv => by
  cases o with
  | none =>
    rcases List.mem_cons.1 hv with e | e
    · rw [e]; rfl
    · exact bts_one _ v e
  | some S =>
    rcases List.mem_cons.1 hv with e | e
    · rw [e]; rfl
    · exact bts_one _ v e)
theorem set_size0 : (Tryz.prog.info? 109).map (·.size) = some 16 := by kernel_rfl
theorem state_size0 : (Tryz.prog.info? 111).map (·.size) = some 17 := by kernel_rfl
theorem set_size (S : Nat) : (Tryz.prog.info? 109).map (·.size) = some (bts S).length := by rw [bts_len]; exact set_size0
theorem set_sizeA (S : Nat) : (Tryz.prog.info? 109).map (·.size) = some (bts S).toArray.size := by rw [List.size_toArray, bts_len]; exact set_size0
theorem state_size (o : Option Nat) : (Tryz.prog.info? 111).map (·.size) = some (scs o).length := by rw [scs_len]; exact state_size0
theorem state_sizeA (o : Option Nat) : (Tryz.prog.info? 111).map (·.size) = some (scs o).toArray.size := by rw [List.size_toArray, scs_len]; exact state_size0
theorem rangeAt_blk {w : World} {B : Nat} {cs : List Value} {ty : TypeId} (k : w.heap[B]? = some (.cells cs.toArray ty)) : w.rangeAt B 0 cs := fun j v hj => by
  rw [Nat.zero_add]; exact cell_blk k (by simpa using hj)
theorem OwnS.range {w : World} {g n : Nat} {f : Nat → List Value} (o : OwnS w g n f) (hf : ∀ x, (f x).length = 17) {t : Nat} (ht : t < n) : w.rangeAt g (t * 17) (f t) := fun j v hj => OwnS.cell o hf ht hj
theorem OwnS.range1 {w : World} {g n : Nat} {f : Nat → List Value} (o : OwnS w g n f) (hf : ∀ x, (f x).length = 17) {t : Nat} (ht : t < n) {a : Value} {cs : List Value} (e : f t = a :: cs) : w.rangeAt g (t * 17 + 1) cs := fun j v hj => by
  have := OwnS.cell o hf (t := t) (j := j + 1) (v := v) ht (by rw [e]; exact hj)
  rw [show t * 17 + (j + 1) = t * 17 + 1 + j by omega] at this
  exact this
theorem OwnS.there {w : World} {g n : Nat} {f : Nat → List Value} (o : OwnS w g n f) (hf : ∀ x, (f x).length = 17) {t : Nat} (ht : t < n) : w.there g (t * 17 + 1) 16 := fun j hj => by
  have hl : j + 1 < (f t).length := by rw [hf]; omega
  have := OwnS.cell o hf (t := t) (j := j + 1) ht (List.getElem?_eq_getElem hl)
  rw [show t * 17 + (j + 1) = t * 17 + 1 + j by omega] at this
  exact ⟨by rw [this]; rfl, o.frozenAt _⟩
theorem set_mid (r : List Value) (j : Nat) (v : Value) (vs : List Value) (hj : j < r.length) : (r.set j v).take (j + 1) ++ vs ++ (r.set j v).drop (j + 1 + vs.length) = r.take j ++ (v :: vs) ++ r.drop (j + (v :: vs).length) := by
  have e1 : (r.set j v).take (j + 1) = r.take j ++ [v] := by
    rw [List.take_add_one, List.getElem?_set]
    rw [if_pos rfl, if_pos hj, List.take_set_of_le (Nat.le_refl j)]; rfl
  have e2 : (r.set j v).drop (j + 1 + vs.length) = r.drop (j + (v :: vs).length) := by
    rw [List.drop_set_of_lt (by omega)]
    congr 1
    simp only [List.length_cons]; omega
  rw [e1, e2]; simp
theorem OwnS.cells {g n t : Nat} (ht : t < n) : ∀ (vs : List Value) (w : World) (f : Nat → List Value) (j : Nat), OwnS w g n f → (∀ x, (f x).length = 17) → j + vs.length ≤ 17 →
    OwnS (w.setCells g (t * 17 + j) vs) g n (upd f t ((f t).take j ++ vs ++ (f t).drop (j + vs.length)))
  | [], w, f, j, o, hf, hj => by
    have : (f t).take j ++ [] ++ (f t).drop (j + ([] : List Value).length) = f t := by simp
    rw [this, upd_self]
    exact o
  | v :: vs, w, f, j, o, hf, hj => by
    simp only [List.length_cons] at hj
    have h1 := OwnS.set o hf v ht (j := j) (by omega)
    have hf1 := upd_len hf (t := t) (r := (f t).set j v) (by simp [hf])
    have h2 := OwnS.cells ht vs (w.setCell ⟨g, t * 17 + j, none⟩ v) (upd f t ((f t).set j v)) (j + 1) h1 hf1 (by omega)
    rw [upd_at, upd_upd, set_mid (f t) j v vs (by rw [hf]; omega)] at h2
    exact h2
theorem fr_cells {S : Nat → Prop} {a : World} (g : Nat) (hS : g < a.heap.size → S g) : ∀ (vs : List Value) (w : World) (j : Nat), Fr S a w → Fr S a (w.setCells g j vs)
  | [], w, j, h => h
  | v :: vs, w, j, h => fr_cells g hS vs _ (j + 1) (h.setCell (p := ⟨g, j, none⟩) hS v)
theorem heap_cells (g B : Nat) (hne : B ≠ g) : ∀ (vs : List Value) (w : World) (j : Nat), (w.setCells g j vs).heap[B]? = w.heap[B]?
  | [], w, j => rfl
  | v :: vs, w, j => (heap_cells g B hne vs _ (j + 1)).trans (heap_setCell_other _ _ _ _ hne)
/-! ### The ways, one by one -/
theorem feed_snoc (st : Nat → Option Nat) (w : Nat) (r : List Nat) (j : Nat) : Flow.feed st w (r ++ [j]) = fun x => if x = j then Flow.jn (Flow.feed st w r j) w else Flow.feed st w r x := by
  induction r generalizing st with
  | nil => rfl
  | cons a r ih => exact ih _
/-- What a state becomes on one way more. -/
def rp (p : Option Nat) (U : Nat) : Nat := match p with
  | none => U
  | some R => R
theorem jn_rp (p : Option Nat) (U : Nat) : Flow.jn p U = some (rp p U &&& U) := by
  cases p with
  | none => simp [Flow.jn, rp]
  | some R => rfl
theorem upd_jn (st : Nat → Option Nat) (t U : Nat) : upd (fun x => scs (st x)) t (scs (Flow.jn (st t) U)) = fun x => scs (if x = t then Flow.jn (st t) U else st x) := by
  funext y
  unfold upd
  by_cases e : y = t
  · rw [if_pos e, if_pos e]
  · rw [if_neg e, if_neg e]
/-- The world while the ways of one instruction are gone. -/
structure I3 (w wx : World) (g n B : Nat) (F : Nat → List Value) (U : Nat) (na : Option Addr) (nx : List Value) : Prop where
  o : OwnS wx g n F
  f : Fr nob w wx
  k : wx.heap[B]? = some (.cells (bts U).toArray 109)
  v : View wx na nx
theorem I3.fr {w wx w' : World} {g n B : Nat} {F : Nat → List Value} {U : Nat} {na : Option Addr} {nx : List Value} (h : I3 w wx g n B F U na nx) (f : Fr nob wx w') : I3 w w' g n B F U na nx :=
  ⟨own_fr h.o f (fun _ _ h => h), h.f.trans f, f.heap h.k (fun h => h), h.v.fr0 f⟩
theorem I3.set {w wx : World} {g n B : Nat} {F : Nat → List Value} {U : Nat} {na : Option Addr} {nx : List Value} (h : I3 w wx g n B F U na nx) (hf : ∀ x, (F x).length = 17) (hB : B ≠ g) (hg : w.heap.size ≤ g) (hn : ∀ b off, na = some ⟨b, off, none⟩ → b ≠ g)
    {t j : Nat} (v : Value) (ht : t < n) (hj : j < 17) : I3 w (wx.setCell ⟨g, t * 17 + j, none⟩ v) g n B (upd F t ((F t).set j v)) U na nx :=
  ⟨OwnS.set h.o hf v ht hj, h.f.setCell (p := ⟨g, t * 17 + j, none⟩) (fun e => absurd e (Nat.not_lt.2 hg)) v, (heap_setCell_other _ _ _ _ hB).trans h.k,
   h.v.fr (S := fun k => k = g) ((Fr.refl (fun k => k = g) wx).setCell (p := ⟨g, t * 17 + j, none⟩) (fun _ => rfl) v) (fun b off e e2 => hn b off e e2)⟩
theorem I3.cells {w wx : World} {g n B : Nat} {F : Nat → List Value} {U : Nat} {na : Option Addr} {nx : List Value} (h : I3 w wx g n B F U na nx) (hf : ∀ x, (F x).length = 17) (hB : B ≠ g) (hg : w.heap.size ≤ g) (hn : ∀ b off, na = some ⟨b, off, none⟩ → b ≠ g)
    {t : Nat} (a : Value) (cs vs : List Value) (e : F t = a :: cs) (ht : t < n) (hv : vs.length = 16) : I3 w (wx.setCells g (t * 17 + 1) vs) g n B (upd F t (a :: vs)) U na nx := by
  have h1 := OwnS.cells ht vs wx F 1 h.o hf (by omega)
  have e1 : (F t).take 1 ++ vs ++ (F t).drop (1 + vs.length) = a :: vs := by
    have hl : cs.length = 16 := by have := hf t; rw [e] at this; simpa using this
    rw [e, hv]; simp [hl]
  rw [e1] at h1
  exact ⟨h1, fr_cells g (fun e => absurd e (Nat.not_lt.2 hg)) vs wx _ h.f, (heap_cells g B hB vs wx _).trans h.k,
   h.v.fr (S := fun k => k = g) (fr_cells (S := fun k => k = g) g (fun _ => rfl) vs wx _ (Fr.refl _ wx)) (fun b off e e2 => hn b off e e2)⟩
/-- By the name: is it a store? -/
theorem cls_six (s : List UInt8) (y : Bool) : cls s y = 6 ↔ (s = [99, 101, 108, 108, 61, 97] ∨ s = [99, 101, 108, 108, 61, 120]) := by
  constructor
  · intro h
    unfold cls at h
    repeat' split at h
    all_goals first | (exact absurd h (by decide)) | assumption
  · rintro (h | h) <;> subst h <;> simp [cls]
theorem cls_five (s : List UInt8) (y : Bool) : cls s y = 5 ↔ (s = [97, 61, 99, 101, 108, 108] ∨ s = [120, 61, 99, 101, 108, 108]) := by
  constructor
  · intro h
    unfold cls at h
    repeat' split at h
    all_goals first | (exact absurd h (by decide)) | assumption
  · rintro (h | h) <;> subst h <;> simp [cls]
theorem cls_nine (s : List UInt8) (y : Bool) : cls s y = 9 ↔ (s = [114, 101, 116, 107] ∨ s = [114, 101, 116, 97]) := by
  constructor
  · intro h
    unfold cls at h
    repeat' split at h
    all_goals first | (exact absurd h (by decide)) | assumption
  · rintro (h | h) <;> subst h <;> simp [cls]
/-! ### A region that only reads -/
theorem quiet_ld {o : Oper} {a : Act} {C : World → Prop} {K : Act → Prop} (ty : TypeId) (x : Operand) (ho : o.op = .load ty x) (b off : Nat) (hx : a.eval x = .pointer (some ⟨b, off, none⟩)) (cs : List Value) (d : TypeDesc)
    (hc : ∀ w, C w → w.rangeAt b off cs) (hu : Tryz.prog.underlying ty = some d) (hd : d.isRow = true) (hi : (Tryz.prog.info? ty).map (·.size) = some cs.length) (hk : K (a.put o.dst (.agg cs.toArray))) : o.quiet Tryz.prog a C K :=
  ⟨_, fun w hw => by
    unfold Oper.quietAt execOp
    simp only [ho, hx, Instr.loadAt, Instr.sureAddr, Sem.run_bind, Sem.run_pure, Result.andThen_ok, run_loadVar_mid w b off ty cs d (hc w hw) hu hd hi]
    exact ⟨rfl, rfl⟩, hk⟩
theorem state_guard : Tryz.prog.eqGuardType Tryz.prog.depth 111 = false := by kernel_rfl
theorem quiet_neq {o : Oper} {a : Act} {C : World → Prop} {K : Act → Prop} (x y : Operand) (ho : o.op = .binOp .neq 111 x y 111) (xs ys : Array Value) (hx : a.eval x = .agg xs) (hy : a.eval y = .agg ys) (r : Bool)
    (hr : ∀ w, (binOp .neq 111 (.agg xs) (.agg ys)).run Tryz.prog w = .ok (.bool r) w) (hk : K (a.put o.dst (.bool r))) : o.quiet Tryz.prog a C K :=
  ⟨_, fun w hw => by
    unfold Oper.quietAt execOp
    simp only [ho, hx, hy, Sem.run_bind, run_eqGuard_agg w _ _ _ _ _ _ state_guard, Result.andThen_ok, hr w, Sem.run_pure]
    exact ⟨rfl, rfl⟩, hk⟩
theorem rangeAt_drewN {w : World} {b o : Nat} {cs : List Value} (h : w.rangeAt b o cs) (n : Nat) : (w.drewN n).rangeAt b o cs := h
theorem st_newS {ops : Array Oper} {rest : List Oper} {o : Oper} {a : Act} {wr : World} {Q : Exit → Act → World → Prop} (hgd : o.guard = none) (x y : Operand) (ho : o.op = .store 111 x y)
    (old : Array Value) (p : Option Nat) (hx : a.eval x = .pointer (some ⟨wr.heap.size, 0, none⟩)) (hy : a.eval y = .agg (scs p).toArray) (hold : old.size = 17)
    (h : ∀ w2, w2.heap[wr.heap.size]? = some (.cells (scs p).toArray 111) → Fr nob wr w2 → w2.heap.size = wr.heap.size + 1 → wpList Tryz.prog ops Q rest (a.put o.dst undef) w2) :
    wpList Tryz.prog ops Q (o :: rest) a (wr.alloc (.cells old 111)) :=
  st_new hgd _ x y ho old _ hx hy (state_sizeA p) (hold.trans (by rw [List.size_toArray, scs_len])) (scs_all p) h
theorem there_bts {w : World} {b o : Nat} (h : w.there b o 16) (U : Nat) : w.there b o (bts U).toArray.size := by rw [List.size_toArray, bts_len]; exact h
theorem Pas.same {l : List Ins} {q : Nat → Nat → Option Nat} {fixed : Prop} (hp : Pas l q fixed) (hfx : fixed) {n S m t U : Nat} (hn : n < l.length) (hS : q n n = some S) (hU : U = ou l n S) (hm : m < (sc l n).length) (ht : t = (sc l n)[m]) :
    Flow.jn (Flow.feed (q n) U ((sc l n).take m) t) U = Flow.feed (q n) U ((sc l n).take m) t := by
  have hid : Flow.feed (q n) U ((sc l n).take m) = q n := Flow.feed_id _ _ _ (fun j hj => by rw [hU]; exact hp.fix hfx n hn S hS j (List.mem_of_mem_take hj))
  obtain ⟨T, h1, h2⟩ := hp.fix hfx n hn S hS t (by rw [ht]; exact List.getElem_mem hm)
  rw [hid, h1, Flow.jn, hU, h2]
theorem feed_take {l : List Ins} {q : Nat → Option Nat} {n m t U : Nat} (hm : m < (sc l n).length) (ht : t = (sc l n)[m]) {st : Nat → Option Nat} (hst : st = Flow.feed q U ((sc l n).take m)) :
    (fun x => scs (Flow.feed q U ((sc l n).take (m + 1)) x)) = upd (fun x => scs (st x)) t (scs (Flow.jn (st t) U)) := by
  rw [upd_jn, List.take_add_one, List.getElem?_eq_getElem hm, ← ht, Option.toList_some, feed_snoc, ← hst]
#print axioms OwnS.cells
end Go.Proofs.YtjgcfffepkmojaaGreat
