import Derived.Test.YtjgcfffepkmojaaOpen
import Derived.Test.YtjgcfffepkmojaaKPol
import Derived.ProofKit
import Derived.OpenShut
import Derived.JoinedCond
import Derived.ChangeOld
namespace Go.Proofs.Ytjgcfffepkmojaa.policies
open Go.ChangeShapes Go.WideShapes Go.ChangeAt Go.RowKit
set_option linter.unusedVariables false

theorem own : ownKnob Try.prog.godebug = none := by kernel_rfl
theorem laidOut : laidOutB Try.prog = true := by kernel_rfl
theorem cells_policy : Try.prog.cellsOf 49 = 4 := by kernel_rfl
theorem cells_args : Try.prog.cellsOf 36 = 6 := by kernel_rfl
theorem cells_rules : Try.prog.cellsOf 47 = 1 := by kernel_rfl
theorem okWide_arr {P : Program} {w : World} {r : Reach} {base : Nat} {t : TypeId} {v : Value} {n : Nat} {e : TypeId} (ht : P.underlying t = some (.array n e)) (h : Value.okWide P w r base t v) : ∃ cs, v = .agg cs ∧ cs.size = P.cellsOf t := by
  unfold Value.okWide at h
  rw [ht] at h
  obtain ⟨cs, h1, h2, _⟩ := h
  exact ⟨cs, h1, h2⟩
section
variable {H : Type} {enc : TypeId × Value → H} {W : World}
/-- A rule that came in, of whatever length. -/
def got (W : World) (x : Rul) : Prop := View W x.ta (tcs x.ts) ∧ x.ts.length ≤ 9223372036854775807 ∧ U32 x.number ∧ U32 x.verdict ∧ ∀ t ∈ x.ts, t.rng
theorem read_rule {fuel : Nat} {cs : List Value} {x : DataW H × List MemPlace} (h : Rd enc W fuel 54 cs x) : ∃ r : Rul, cs = r.cs ∧ got W r := by
  obtain ⟨y0, y1, y2, n, hx, hl, h0, h1, h2⟩ := trod_struct3 Try.underlying54 h
  rw [cells_rule] at hl
  obtain ⟨c0, c1, c2, rfl⟩ := list3 hl
  simp only [cells_u32, cells_tests, List.drop, List.take] at h0 h1 h2
  obtain ⟨a, e0, _, w0⟩ := DataW.trod_int Try.underlying27 h0
  obtain ⟨d, e2, _, w2⟩ := DataW.trod_int Try.underlying27 h2
  obtain ⟨ao, cap, ts, e1, hv, _, _, _, hl', hok⟩ := read_listM (⟨0, 0, 0, 0⟩ : Tst) (f := Tst.cs) (s := 4) (by decide) (fun _ => rfl) Tst.rng Try.underlying52 cells_test (Rows.uptoBulk y1.1) (fun _ _ _ h _ => read_test h) h1 (Nat.le_refl _)
  simp only [List.cons.injEq, and_true] at e0 e2
  subst e0 e1 e2
  exact ⟨⟨a, ao, cap, ts, d⟩, rfl, hv, hl', wf32 w0, wf32 w2, hok⟩
theorem read_rules {fuel : Nat} {v : Value} {x : DataW H × List MemPlace} (h : Rd enc W fuel 47 [v] x) :
    ∃ (ao : Option Addr) (cap : Nat) (rs : List Rul), v = .slice ao rs.length cap ∧ RV W ao rs ∧ rs.length ≤ 9223372036854775807 ∧ ∀ x ∈ rs, got W x := by
  obtain ⟨ao, cap, rs, e, hv, _, _, _, hl, hok⟩ := read_listM (⟨0, none, 0, [], 0⟩ : Rul) (f := Rul.cs) (s := 3) (by decide) (fun _ => rfl) (got W) Try.underlying47 cells_rule (Rows.uptoBulk x.1) (fun _ _ _ h _ => read_rule h) h (Nat.le_refl _)
  exact ⟨ao, cap, rs, e, ⟨hv, fun x hx => (hok x hx).1⟩, hl, hok⟩
theorem read_policy {fuel : Nat} {cs : List Value} {x : DataW H × List MemPlace} (h : Rd enc W fuel 49 cs x) :
    ∃ (arch els oth : Int) (ao : Option Addr) (cap : Nat) (rs : List Rul), cs = [.int .u32 arch, .slice ao rs.length cap, .int .u32 els, .int .u32 oth] ∧ U32 arch ∧ U32 els ∧ U32 oth ∧ RV W ao rs ∧ rs.length ≤ 9223372036854775807 ∧ ∀ x ∈ rs, got W x := by
  obtain ⟨y0, y1, y2, y3, n, _, hl, h0, h1, h2, h3⟩ := Go.Joins.trod_struct4 Try.underlying49 h
  rw [cells_policy] at hl
  obtain ⟨c0, c1, c2, c3, rfl⟩ := list4 hl
  simp only [cells_u32, cells_rules, List.drop, List.take] at h0 h1 h2 h3
  obtain ⟨a, e0, _, w0⟩ := DataW.trod_int Try.underlying27 h0
  obtain ⟨b, e2, _, w2⟩ := DataW.trod_int Try.underlying27 h2
  obtain ⟨c, e3, _, w3⟩ := DataW.trod_int Try.underlying27 h3
  obtain ⟨ao, cap, rs, e1, hv, hlr, hok⟩ := read_rules h1
  simp only [List.cons.injEq, and_true] at e0 e2 e3
  subst e0 e1 e2 e3
  exact ⟨a, b, c, ao, cap, rs, rfl, wf32 w0, wf32 w2, wf32 w3, hv, hlr, hok⟩
theorem list6 {l : List Value} (h : l.length = 6) : ∃ a b c d e f, l = [a, b, c, d, e, f] := by
  match l, h with
  | [a, b, c, d, e, f], _ => exact ⟨a, b, c, d, e, f, rfl⟩
theorem read_args {fuel : Nat} {cs : List Value} {x : DataW H × List MemPlace} (h : Rd enc W fuel 36 cs x) : ∃ q : Nat → Int, cs = qs q ∧ ∀ k, U64 (q k) := by
  obtain ⟨xs, m, _, _, hl, hlen, hx⟩ := DataW.trod_array Try.underlying36 h
  rw [cells_args] at hl
  obtain ⟨c0, c1, c2, c3, c4, c5, rfl⟩ := list6 hl
  have one : ∀ (i : Nat) (c : Value), i < 6 → ((([c0, c1, c2, c3, c4, c5] : List Value).drop (i * 1)).take 1) = [c] → ∃ a : Int, c = .int .u64 a ∧ U64 a := fun i c hi hc => by
    have h1 := hx i hi
    rw [cells_u64, hc, List.getElem?_eq_getElem (by omega)] at h1
    obtain ⟨a, e, _, wa⟩ := DataW.trod_int Try.underlying35 h1
    simp only [List.cons.injEq, and_true] at e
    exact ⟨a, e, wf64 wa⟩
  obtain ⟨a0, rfl, u0⟩ := one 0 c0 (by decide) rfl
  obtain ⟨a1, rfl, u1⟩ := one 1 c1 (by decide) rfl
  obtain ⟨a2, rfl, u2⟩ := one 2 c2 (by decide) rfl
  obtain ⟨a3, rfl, u3⟩ := one 3 c3 (by decide) rfl
  obtain ⟨a4, rfl, u4⟩ := one 4 c4 (by decide) rfl
  obtain ⟨a5, rfl, u5⟩ := one 5 c5 (by decide) rfl
  refine ⟨fun k => [a0, a1, a2, a3, a4, a5].getD k 0, rfl, fun k => ?_⟩
  match k with
  | 0 => exact u0
  | 1 => exact u1
  | 2 => exact u2
  | 3 => exact u3
  | 4 => exact u4
  | 5 => exact u5
  | k + 6 => exact ⟨by show (0 : Int) ≤ 0; decide, by show (0 : Int) < 18446744073709551616; decide⟩
end

set_option maxRecDepth 100000 in
/-- What the walk gives, for every policy and every call. -/
theorem contract (H : Type) (enc : TypeId × Value → H) (W : World) (base : Nat) (args : Array Value) (ds gs : List (DataW H)) (before : List MemPlace)
    (hval : ∀ (j : Nat) t v, Try.f7.params[j]? = some t → args[j]? = some v → Value.okWide Try.prog W .any base t v)
    (hW : DataW.Whole enc Try.prog Try.f7.params.toList Rows.policiesSpec.vars false W args.toList ds gs before) :
    Calls Try.prog 7 args W fun e W' => ∃ v, e = .returned v ∧ Rows.policiesSpec.post enc Try.prog Try.f7 false true false false W args v W' := by
  have hW' := hW
  obtain ⟨p, q, hA0, hV, rfl, hfz, hnd⟩ := hW
  have hA : DataW.TrodAll enc Try.prog W 0 (fun _ => true) true Try.f7.params.toList args.toList ds p := hA0
  rw [Try.params7] at hA hval
  obtain ⟨v0, vs0, d0, ds0, p0, q0, hargs, rfl, rfl, h0, r0⟩ := trodAll_cons hA
  obtain ⟨v1, vs1, d1, ds1, p1, q1, rfl, rfl, rfl, h1, r1⟩ := trodAll_cons r0
  obtain ⟨v2, vs2, d2, ds2, p2, q2, rfl, rfl, rfl, h2, r2⟩ := trodAll_cons r1
  obtain ⟨v3, vs3, d3, ds3, p3, q3, rfl, rfl, rfl, h3, r3⟩ := trodAll_cons r2
  obtain ⟨rfl, rfl, rfl⟩ := trodAll_nil r3
  obtain rfl : args = #[v0, v1, v2, v3] := by cases args; simp_all
  obtain ⟨rfl, rfl⟩ := trodVars_none hV
  obtain ⟨cs0, rfl, hs0⟩ := okWide_struct Try.underlying49 (hval 0 49 v0 rfl rfl)
  obtain ⟨num, rfl, rfl, rfl, wn⟩ := open_int Try.underlying27 (hval 1 27 v1 rfl rfl) h1
  obtain ⟨ar, rfl, rfl, rfl, wa⟩ := open_int Try.underlying27 (hval 2 27 v2 rfl rfl) h2
  obtain ⟨cs3, rfl, hs3⟩ := okWide_arr Try.underlying36 (hval 3 36 v3 rfl rfl)
  have k0 := h0
  have k3 := h3
  have lt0 : ∀ x ∈ p0, x.block < W.heap.size := by obtain ⟨m, hm⟩ := k0; exact DataW.trod_lt m _ _ _ hm
  have lt3 : ∀ x ∈ p3, x.block < W.heap.size := by obtain ⟨m, hm⟩ := k3; exact DataW.trod_lt m _ _ _ hm
  obtain ⟨fuel0, hf0⟩ := h0
  obtain ⟨fuel3, hf3⟩ := h3
  obtain ⟨arch, els, oth, ao, cap, rs, e0, ua, ue, uo, hrv, hl, hok⟩ := read_policy (enc := enc) (W := W) (fuel := fuel0) (x := (d0, p0)) hf0
  obtain ⟨qq, e3, hq⟩ := read_args (enc := enc) (W := W) (fuel := fuel3) (x := (d3, p3)) hf3
  obtain rfl : cs0 = #[.int .u32 arch, .slice ao rs.length cap, .int .u32 els, .int .u32 oth] := by
    have e0' : cs0.toList = _ := e0
    rw [← Array.toArray_toList (xs := cs0), e0']
  obtain rfl : cs3 = (qs qq).toArray := by
    have e3' : cs3.toList = _ := e3
    rw [← Array.toArray_toList (xs := cs3), e3']
  clear hA0
  simp only [List.append_nil] at hW'
  refine (policies_any W arch els oth ao cap rs hrv hl (fun x hx => (hok x hx).2.1) (fun x hx => (hok x hx).2.2) ua ue uo num ar (wf32 wn) (wf32 wa) qq hq).mono fun e W' ⟨he, fr⟩ => ?_
  subst he
  exact ⟨_, rfl, _, _, _, [], _, [], hW', trodAll_mk1 (shut_bool Try.underlying4 _), (trodAll_cons_mk (Below.trod laidOut (by kernel_rfl) (of_decide_eq_true (by kernel_rfl)) k0 fr.below lt0) (trodAll_cons_mk (shut_int Try.underlying27 wn) (trodAll_cons_mk (shut_int Try.underlying27 wa) (trodAll_cons_mk (Below.trod laidOut (by kernel_rfl) (of_decide_eq_true (by kernel_rfl)) k3 fr.below lt3) trodAll_mk0)))), rfl, fr.below.frame _, fun h => by cases h⟩

set_option maxRecDepth 100000 in
theorem lifted (os : Os) (started : os.Started) (H : Type) (enc : TypeId × Value → H) :
    ReturnsInHanded {} Try.checked os 7 .any (Rows.policiesSpec.pre6 enc Try.prog Try.f7 Rows.policiesRow.domain false) (Rows.policiesSpec.post enc Try.prog Try.f7 false true false false) := by
  refine returnsInHanded_of_change (C := Try.checked) own started (by kernel_rfl) Try.func7
    (ChangeSpec.witness6 (enc := enc) (C := Try.checked) false ⟨#[], #[.agg #[.int .u32 0, .slice none 0 0, .int .u32 0, .int .u32 0], .int .u32 0, .int .u32 0, .agg #[.int .u64 0, .int .u64 0, .int .u64 0, .int .u64 0, .int .u64 0, .int .u64 0]], []⟩ 8 (by kernel_rfl) (by kernel_rfl) (by kernel_rfl) (by kernel_rfl)) ?_
  intro W base args ds gs before hval hW _ _
  exact contract H enc W base args ds gs before hval hW

theorem over : Rows.policiesRow.holds Try.pinned (OpenSpec.ofChange Rows.policiesSpec) :=
  OpenClaim.holds_of_wide 7 Try.f7 rfl rfl rfl rfl rfl rfl rfl ⟨rfl, rfl, rfl, rfl, rfl⟩ rfl rfl rfl rfl rfl (by kernel_rfl) Try.func7 (by kernel_rfl)
    (of_decide_eq_true (by kernel_rfl)) (by unfold Func.isWrapper; first | (rw [if_pos (by decide +kernel)]; kernel_rfl) | (rw [if_neg (by decide +kernel)]; exact ⟨rfl, rfl⟩))
    (fun os started H enc _ => lifted os started H enc)
end Go.Proofs.Ytjgcfffepkmojaa.policies
namespace Go.Proofs.Ytjgcfffepkmojaa
/-- THE STATEMENT. -/
theorem policies_holds : Rows.PoliciesSaid := policies.over
#print axioms policies_holds
end Go.Proofs.Ytjgcfffepkmojaa
