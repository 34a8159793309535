import Derived.Test.YtjgcfffepkmojabGreatLComp
import Derived.Test.YtjgcfffepkmojabGreatExG
namespace Go.Proofs.YtjgcfffepkmojabGreat
open Go.RowKit
set_option linter.unusedVariables false

set_option maxRecDepth 100000 in
set_option maxHeartbeats 2000000 in
/-- 'step', where it comes to 'compiled'. -/
theorem step_comp (comp : Int → Int → Int → List RD → List Ins × Int) (hC : CompilesAs comp) (w : World) (B wb : Nat) (ps : Value) (hs : List Nat) (F : Nat → Prop) (hA : At w B wb ps hs F) (o : OpR) (ho : o.ok w B) (hk : o.kind = 5) (hlen : hs.length + o.gr ≤ 90000000) :
    Calls Tryz.prog 7 #[.pointer (some ⟨wb, 0, none⟩), o.v] w fun e w' => e = .returned (.bool true) ∧ ∃ hs', At w' B wb ps hs' (grow F w w') ∧ hs'.length ≤ hs.length + o.gr ∧ Ft B w.heap.size w w' := by
  obtain ⟨rs, hn1, hpol⟩ := ho.pol
  have f0 : Fr nob w (w.alloc (.cells #[.int .i64 o.kind, .int .i64 o.N, .slice o.ao o.l.length o.cap, .string o.s, .int .u32 o.q0, .slice o.a1 o.n1 o.c1, .int .u32 o.q2, .int .u32 o.q3, .slice o.a2 o.n2 o.c2] 41)) := (Fr.refl _ w).alloc _
  have hgr : o.gr = 12 + 4 * (rs.length + o.n2) := by unfold OpR.gr; rw [hn1]
  have hc := compiled_any comp hC _ B wb ps hs F (hA.fr f0) o.N o.q0 o.q2 o.q3 o.ao o.l.length o.cap o.s ho.s o.a1 o.c1 o.a2 o.n2 o.c2 rs (hpol.fr (f0.mono (fun _ _ h => h.elim))) ho.q (by omega)
  rw [← hn1, ← hk] at hc
  have HC := hide hc
  have HF := hide f0
  have HG := hide hgr
  have HN := hide hn1
  clear hc f0 hgr hlen hn1 hpol
  have e1 : (o.kind == 1) = false := by simp [hk]
  have e2 : (o.kind == 2) = false := by simp [hk]
  have e3 : (o.kind == 3) = false := by simp [hk]
  have e4 : (o.kind == 4) = false := by simp [hk]
  have e5 : (o.kind == 5) = true := by simp [hk]
  clear hk
  go_enter Tryz.func7, Tryz.ntmps7
  go_wp2_with fail
  refine HC.out.mono ?_
  rintro e w1 ⟨rfl, hs', h1, h2, h3⟩
  have FF : Ft B w.heap.size w w1 := (Ft.ofNob HF.out).trans h3 (by rw [World.size_alloc]; omega)
  have h4 : hs'.length ≤ hs.length + o.gr := by have := HG.out; have := HN.out; omega
  have H4 := hide h4
  have HH := hide (h1.wide (w := w) (by rw [World.size_alloc]; omega))
  clear h3 h2 h4 h1
  go_wp2
  go_ret
  exact ⟨rfl, hs', HH.out, H4.out, FF⟩

theorem good_comp (comp : Int → Int → Int → List RD → List Ins × Int) (hC : CompilesAs comp) : StepG atW 5 5 := fun B o h1 h2 w1 hs hA hl ho =>
  (step_comp comp hC w1 B B _ hs _ hA o ho (by omega) hl).mono (fun e w' ⟨h1, hs', h2, h3, h4⟩ => ⟨h1, hs', h2.all, h3, h4.up⟩)
#print axioms good_comp
end Go.Proofs.YtjgcfffepkmojabGreat
