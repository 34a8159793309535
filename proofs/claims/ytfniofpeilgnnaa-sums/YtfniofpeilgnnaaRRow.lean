import Derived.Test.YtfniofpeilgnnaaCProg
import Derived.Test.YtfniofpeilgnnaaRNext
import Derived.ChangeKeysEq
import Derived.Deep.MidRow
namespace Go.Proofs.Ytfniofpeilgnnaa
open Go.RowKit
set_option linter.unusedVariables false

/-- Which cells are set, as the reference holds them. -/
def bts (S : Nat) : List Value := (List.range 16).map (fun j => .bool (S.testBit j))
/-- Half way through the meeting of two. -/
def mx (R U c : Nat) : List Value := (List.range 16).map (fun j => .bool (if j < c then R.testBit j && U.testBit j else R.testBit j))
def scs : Option Nat → List Value
  | none => .bool false :: bts 0
  | some S => .bool true :: bts S
theorem bts_len (S : Nat) : (bts S).length = 16 := by simp [bts]
theorem mx_len (R U c : Nat) : (mx R U c).length = 16 := by simp [mx]
theorem scs_len (o : Option Nat) : (scs o).length = 17 := by cases o <;> simp [scs, bts_len]
theorem bts_get (S j : Nat) (h : j < 16) : (bts S)[j]? = some (.bool (S.testBit j)) := by simp [bts, h]
theorem mx_get (R U c j : Nat) (h : j < 16) : (mx R U c)[j]? = some (.bool (if j < c then R.testBit j && U.testBit j else R.testBit j)) := by simp [mx, h]
theorem mx_zero (R U : Nat) : mx R U 0 = bts R := by simp [mx, bts]
theorem mx_end (R U : Nat) : mx R U 16 = bts (R &&& U) := by
  apply List.ext_getElem?
  intro j
  by_cases h : j < 16
  · rw [mx_get _ _ _ _ h, bts_get _ _ h, if_pos h, Nat.testBit_and]
  · rw [List.getElem?_eq_none (by rw [mx_len]; omega), List.getElem?_eq_none (by rw [bts_len]; omega)]
theorem mx_set (R U c : Nat) (h : c < 16) : (mx R U c).set c (.bool (R.testBit c && U.testBit c)) = mx R U (c + 1) := by
  apply List.ext_getElem?
  intro j
  by_cases hj : j < 16
  · rw [List.getElem?_set, mx_get _ _ _ _ hj, mx_get _ _ _ _ hj]
    by_cases e : c = j
    · subst e; simp [mx_len, hj]
    · rw [if_neg e]
      by_cases h2 : j < c
      · rw [if_pos h2, if_pos (by omega)]
      · rw [if_neg h2, if_neg (by omega)]
  · rw [List.getElem?_eq_none (by simp [mx_len]; omega), List.getElem?_eq_none (by rw [mx_len]; omega)]
theorem bts_set (S c : Nat) (h : c < 16) : (bts S).set c (.bool true) = bts (S ||| 1 <<< c) := by
  apply List.ext_getElem?
  intro j
  by_cases hj : j < 16
  · rw [List.getElem?_set, bts_get _ _ hj, bts_get _ _ hj]
    rw [Nat.testBit_or, Nat.shiftLeft_eq, Nat.one_mul, Nat.testBit_two_pow]
    by_cases e : c = j
    · subst e; simp [bts_len, hj]
    · rw [if_neg e]; simp [e]
  · rw [List.getElem?_eq_none (by simp [bts_len]; omega), List.getElem?_eq_none (by rw [bts_len]; omega)]

/-- Rows of seventeen cells. -/
def rws (f : Nat → List Value) : Nat → List Value
  | 0 => []
  | n + 1 => rws f n ++ f n
theorem rws_len {f : Nat → List Value} (hf : ∀ x, (f x).length = 17) (n : Nat) : (rws f n).length = n * 17 := by
  induction n with
  | zero => rfl
  | succ n ih => simp [rws, ih, hf]; omega
theorem rws_get {f : Nat → List Value} (hf : ∀ x, (f x).length = 17) (n x j : Nat) (hx : x < n) (hj : j < 17) : (rws f n)[x * 17 + j]? = (f x)[j]? := by
  induction n with
  | zero => omega
  | succ n ih =>
    have hl := rws_len hf n
    rw [rws]
    by_cases h : x < n
    · rw [List.getElem?_append_left (by omega)]; exact ih h
    · have : x = n := by omega
      subst this
      rw [List.getElem?_append_right (by omega), hl, Nat.add_sub_cancel_left]
/-- One row, anew. -/
def upd (f : Nat → List Value) (t : Nat) (r : List Value) : Nat → List Value := fun y => if y = t then r else f y
theorem upd_len {f : Nat → List Value} (hf : ∀ x, (f x).length = 17) {t : Nat} {r : List Value} (hr : r.length = 17) : ∀ x, (upd f t r x).length = 17 := fun x => by
  unfold upd; split
  · exact hr
  · exact hf x
theorem upd_at (f : Nat → List Value) (t : Nat) (r : List Value) : upd f t r t = r := by simp [upd]
theorem upd_upd (f : Nat → List Value) (t : Nat) (r q : List Value) : upd (upd f t r) t q = upd f t q := by
  funext y; unfold upd; split <;> rfl
theorem upd_self (f : Nat → List Value) (t : Nat) : upd f t (f t) = f := by
  funext y; unfold upd; split
  · rename_i e; rw [e]
  · rfl
theorem rws_set {f : Nat → List Value} (hf : ∀ x, (f x).length = 17) (n x j : Nat) (v : Value) (hx : x < n) (hj : j < 17) : (rws f n).set (x * 17 + j) v = rws (upd f x ((f x).set j v)) n := by
  have hu := upd_len hf (t := x) (r := (f x).set j v) (by simp [hf])
  apply List.ext_getElem?
  intro z
  by_cases hz : z < n * 17
  · have h1 := rws_get hf n (z / 17) (z % 17) (by omega) (Nat.mod_lt _ (by decide))
    have h2 := rws_get hu n (z / 17) (z % 17) (by omega) (Nat.mod_lt _ (by decide))
    rw [show z / 17 * 17 + z % 17 = z by omega] at h1 h2
    rw [h2, List.getElem?_set]
    unfold upd
    by_cases e1 : x * 17 + j = z
    · rw [if_pos e1, if_pos (by rw [rws_len hf]; omega), if_pos (by omega), List.getElem?_set, if_pos (by omega), if_pos (by rw [hf]; exact hj)]
    · rw [if_neg e1, h1]
      by_cases e0 : z / 17 = x
      · rw [if_pos e0, List.getElem?_set, if_neg (by omega), e0]
      · rw [if_neg e0]
  · rw [List.getElem?_eq_none (by simp [rws_len hf]; omega), List.getElem?_eq_none (by rw [rws_len hu]; omega)]
theorem rws_rep (n : Nat) : rws (fun _ => scs none) n = rep (scs none) n := by
  induction n with
  | zero => rfl
  | succ n ih => rw [rws, rep, ih]

/-! ### Two states compared -/
theorem bool_under : Try.prog.underlying 4 = some .bool := by kernel_rfl
theorem eqItems_bool (d : Nat) (xs ys : Array Value) : ∀ is : List Nat, (∀ i ∈ is, ∃ a b : Bool, xs[i]? = some (.bool a) ∧ ys[i]? = some (.bool b)) →
    ∃ r, (∀ w, (Op.eqItems (d + 1) 4 1 xs ys is).run Try.prog w = .ok r w) ∧ ((∀ i ∈ is, xs[i]? = ys[i]?) → r = true)
  | [], _ => ⟨true, fun w => by simp [Op.eqItems], fun _ => rfl⟩
  | i :: is, h => by
    obtain ⟨a, b, ha, hb⟩ := h i (List.mem_cons_self ..)
    obtain ⟨r, hr, hi⟩ := eqItems_bool d xs ys is (fun j hj => h j (List.mem_cons_of_mem _ hj))
    have he : Try.prog.plainKey 4 = true := by kernel_rfl
    have p1 : ∀ w, (part 4 xs (i * 1)).run Try.prog w = .ok (.bool a) w := fun w => run_part_plain w he (by rw [Nat.mul_one]; exact ha)
    have p2 : ∀ w, (part 4 ys (i * 1)).run Try.prog w = .ok (.bool b) w := fun w => run_part_plain w he (by rw [Nat.mul_one]; exact hb)
    have p3 : ∀ w, (Op.equalIn (d + 1) 4 (.bool a) (.bool b)).run Try.prog w = .ok (a == b) w := fun w => run_equalIn_bool w d 4 a b bool_under
    cases hab : (a == b) with
    | false =>
      refine ⟨false, fun w => by simp only [Op.eqItems, Sem.run_bind, p1, p2, p3, Result.andThen_ok, hab]; simp, fun hall => ?_⟩
      have := hall i (List.mem_cons_self ..)
      rw [ha, hb] at this
      simp only [Option.some.injEq, Value.bool.injEq] at this
      simp [this] at hab
    | true => exact ⟨r, fun w => by simp only [Op.eqItems, Sem.run_bind, p1, p2, p3, Result.andThen_ok, hab]; simpa using hr w, fun hall => hi (fun j hj => hall j (List.mem_cons_of_mem _ hj))⟩
theorem part_head (b : Bool) (S : Nat) (w : World) : (part 4 (.bool b :: bts S).toArray 0).run Try.prog w = .ok (.bool b) w := by kernel_rfl
theorem bool_info : ∃ i, Try.prog.info? 4 = some i := by
  have h : (Try.prog.info? 4).isSome = true := by kernel_rfl
  exact Option.isSome_iff_exists.1 h
theorem cells_bool : Try.prog.cellsOf 4 = 1 := by kernel_rfl
end Go.Proofs.Ytfniofpeilgnnaa
