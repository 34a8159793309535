import Derived.Test.YtjgcfffepkmojabGreatSInst
import Derived.Test.YtjgcfffepkmojabGreatLAll
import Derived.Test.YtjgcfffepkmojabGreatCompAny
import Derived.Test.YtjgcfffepkmojabGreatPlainRun
namespace Go.Proofs.YtjgcfffepkmojabGreat
open Go.RowKit
set_option linter.unusedVariables false

/-! ### The program's stack is one -/
def SPb (g : Nat) (ls : List Prg) (x : Nat) : Prop := x = g ∨ ∃ q ∈ ls, bk (.slice q.a q.l.length q.cap) x
def SK (w : World) (v : Value) (ls : List (List Ins)) (S : Nat → Prop) : Prop := ∃ g qs, v = .pointer (some ⟨g, 0, none⟩) ∧ SP w g 92 qs ∧ qs.map Prg.l = ls ∧ qs.length ≤ 8 ∧ S = SPb g qs
theorem SP.frT {w w' : World} {g : Nat} {t : TypeId} {ls : List Prg} {T : Nat → Prop} (h : SP w g t ls) (f : Fr T w w') (hT : ∀ x, SPb g ls x → ¬ T x) : SP w' g t ls :=
  ⟨f.heap h.blk (hT g (.inl rfl)), fun q hq => po_fr (h.p q hq) f (fun x hx => hT x (.inr ⟨q, hq, hx⟩))⟩
theorem bl_ls {w0 w : World} {ss : List ByteArray} {la pa : Option Addr} {lc pc : Nat} {gs : List Nat} (h : LS w0 w ss ss.length la lc pa pc gs) : BL w pa ss := by
  refine ⟨psV ss gs, ?_, ?_, ?_⟩
  · have := h.prog
    rw [List.take_length] at this
    exact own_view this (by simp)
  · unfold psV
    rw [List.length_zipWith, h.len, Nat.min_self]
  · intro j s v hs hv
    unfold psV at hv
    rw [List.getElem?_zipWith, hs] at hv
    cases hg : gs[j]? with
    | none => rw [hg] at hv; cases hv
    | some g =>
      rw [hg] at hv
      simp only [Option.some.injEq] at hv
      exact ⟨_, _, hv.symm, by omega, own_view (h.own j s g hs hg) (by simp)⟩
theorem stack_as : StackAs SK where
  fr := fun {w w' v ls S T} h f hT => by
    obtain ⟨g, qs, e1, h1, e2, h2, rfl⟩ := h
    exact ⟨g, qs, e1, h1.frT f hT, e2, h2, rfl⟩
  lt := fun {w v ls S} h x hx => by
    obtain ⟨g, qs, e1, h1, e2, h2, rfl⟩ := h
    rcases hx with rfl | ⟨q, hq, hx⟩
    · exact h1.blk.lt
    · exact own_lt (h1.p q hq).1 hx
  ty := fun {w v ls S} h x hx => by
    obtain ⟨g, qs, e1, h1, e2, h2, rfl⟩ := h
    rcases hx with rfl | ⟨q, hq, hx⟩
    · rintro ⟨c, t, k, hk, ht⟩
      have hb := h1.blk
      unfold SB at hb
      rw [hb] at hk
      simp at hk
      obtain ⟨_, e, _⟩ := hk
      rcases ht with e' | e' <;> rw [e'] at e <;> cases e
    · exact own_ty (h1.p q hq).1 hx (by decide) (by decide)
  new := fun w => (new_any w).mono (by
    rintro e w' ⟨rfl, hb, f⟩
    exact ⟨_, SPb w.heap.size [], rfl, ⟨w.heap.size, [], rfl, ⟨hb, fun q hq => by cases hq⟩, rfl, by decide, rfl⟩, (fun x hx => by
      rcases hx with rfl | ⟨q, hq, _⟩
      · exact Nat.le_refl _
      · cases hq), f⟩)
  install := fun w0 w v ls S ss la pa lc pc gs h hS hL hl hs => by
    obtain ⟨g, qs, rfl, h1, rfl, h2, rfl⟩ := h
    refine (sInstall_any w g 92 qs h1 (by decide) h2 pa pc ss (bl_ls hL) hl (fun s h => by have := hs s h; omega)).mono ?_
    rintro e w' ⟨rfl, hne, h0⟩
    have hA := insA_l qs ss
    refine ⟨by rw [hA], ?_⟩
    by_cases h3 : (insA qs ss).1 = 0
    · obtain ⟨rs, hsp, hm, hnew, f⟩ := h0 h3
      refine ⟨SPb g (qs ++ rs), ⟨g, qs ++ rs, rfl, hsp, ?_, ?_, rfl⟩, ?_, f.mono (fun x _ hx => .inl hx)⟩
      · unfold afterL
        rw [hA, if_pos h3, List.map_append, hm]
      · have hrs : rs.length = ss.length := by have := congrArg List.length hm; simpa using this
        have : qs.length + ss.length ≤ 8 := by
          unfold insA at h3
          split at h3
          · rename_i n hn
            have := List.find?_some hn
            unfold insF at this
            simp only at h3
            rw [h3] at this
            simp at this
          · split at h3
            · cases h3
            · omega
        simp; omega
      · intro x hx
        rcases hx with hx | ⟨q, hq, hx⟩
        · exact .inl (.inl hx)
        · rcases List.mem_append.1 hq with h | h
          · exact .inl (.inr ⟨q, h, hx⟩)
          · exact .inr (hnew q h x hx)
    · have f := hne h3
      refine ⟨SPb g qs, ⟨g, qs, rfl, h1.frT f (fun _ _ h => h), ?_, h2, rfl⟩, fun x hx => .inl hx, f.mono (fun _ _ h => h.elim)⟩
      unfold afterL
      rw [hA, if_neg h3]
  judge := fun w v ls S r h hr => by
    obtain ⟨g, qs, rfl, h1, rfl, h2, rfl⟩ := h
    refine (sJudge_any w g 92 qs h1 h2 r (by omega)).mono ?_
    rintro e w' ⟨rfl, f⟩
    exact ⟨by rw [jdgA_l], SPb g qs, ⟨g, qs, rfl, h1.frT f (fun _ _ h => h), rfl, h2, rfl⟩, fun x hx => .inl hx, f.mono (fun _ _ h => h.elim)⟩
#print axioms stack_as

set_option maxRecDepth 100000 in
theorem all_any (w : World) (so : Option Addr) (cap : Nat) (ops : List OpR) (hv : View w so (ocs ops)) (hl : ops.length ≤ 10000000)
    (hok : ∀ o ∈ ops, o.ok w w.heap.size) (hgr : (ops.map OpR.gr).sum ≤ 80000000) :
    Calls Tryz.prog 3 #[.slice so ops.length cap] w fun e w' => e = .returned (.bool true) ∧ Fr nob w w' := by
  go_enter Tryz.func3, Tryz.ntmps3
  go_wp2_with fail
  refine (example_g (plW SK) (plW_wld stack_as) _ 1 8 (good_all stack_as co compiles_as runs_as)).mono ?_
  rintro e w1 ⟨rfl, f1⟩
  have hsz := f1.size
  go_wp2_with fail
  refine (upto_g w1 so cap ops 1 8 (hv.fr0 f1) hl (fun o ho => (hok o ho).up f1 hsz) (plW SK w1.heap.size) (plW_wld stack_as _) hgr (fun o _ h1 h2 w1 hs hA hl ho => good_all stack_as co compiles_as runs_as _ o h1 h2 w1 hs hA hl ho)).mono ?_
  rintro e w2 ⟨rfl, f2⟩
  have F := f1.trans f2
  clear f1 f2
  go_wp2
  go_ret
  exact ⟨rfl, F⟩
#print axioms all_any
end Go.Proofs.YtjgcfffepkmojabGreat
