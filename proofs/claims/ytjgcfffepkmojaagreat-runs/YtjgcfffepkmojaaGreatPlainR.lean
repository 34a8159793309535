import Derived.Test.YtjgcfffepkmojaaGreatPlainC
import Derived.Test.YtjgcfffepkmojaaGreatRRun
namespace Go.Proofs.YtjgcfffepkmojaaGreat
open Go.RowKit
set_option linter.unusedVariables false

/-- The program's Run answers what it must. -/
def RunsAs : Prop := ∀ (w : World) (ao : Option Addr) (cap : Nat) (l : List Ins) (_ : View w ao (flat l)) (_ : ∀ x ∈ l, x.ok) (r : ByteArray) (_ : r.size ≤ 140737488355328),
  Calls Tryz.prog 31 #[.slice ao l.length cap, .string r] w fun e w' => e = .returned (.tuple #[.int .u32 (runA l r).1, .int .i64 (runA l r).2.1, .int .i64 (runA l r).2.2]) ∧ Fr nob w w'

set_option maxRecDepth 100000 in
set_option maxHeartbeats 4000000 in
theorem plain_run (hS : RunsAs) (w : World) (B wb : Nat) (ps : Value) (hs : List Nat) (F : Nat → Prop) (hA : At w B wb ps hs F) (hlen : hs.length ≤ 9900000000000) (N q0 q2 q3 : Int) (a1 a2 : Option Addr) (n1 c1 n2 c2 : Nat)
    (ao : Option Addr) (cap : Nat) (l : List Ins) (hv : View w ao (flat l)) (hz : ao = none → l.length = 0) (hl : l.length ≤ 17592186043904) (hok : ∀ x ∈ l, x.ok) (s : ByteArray) (hsz : s.size ≤ 140737488351232) :
    Calls Tryz.prog 13 #[.pointer (some ⟨wb, 0, none⟩), opV 4 N ao l.length cap s q0 a1 n1 c1 q2 q3 a2 n2 c2] w fun e w' => e = .returned (.bool true) ∧ ∃ hs', At w' B wb ps hs' (grow F w w') ∧ hs'.length ≤ hs.length + 8 ∧ Ft B w.heap.size w w' := by
  obtain ⟨row, hI⟩ := hA.inv
  have hB := hA.le
  have HFL := hide hA.lt
  have HZ := hide hz
  clear hz
  have HOK := hide hok
  have HS := hide hS
  clear hok hS
  go_enter Tryz.func13, Tryz.ntmps13
  go_wp2_with fail
  have f0 : Fr nob w (w.alloc (.cells #[.int .i64 4, .int .i64 N, .slice ao l.length cap, .string s, .int .u32 q0, .slice a1 n1 c1, .int .u32 q2, .int .u32 q3, .slice a2 n2 c2] 41)) := (Fr.refl _ w).alloc _
  have k0 : (w.alloc (.cells #[.int .i64 4, .int .i64 N, .slice ao l.length cap, .string s, .int .u32 q0, .slice a1 n1 c1, .int .u32 q2, .int .u32 q3, .slice a2 n2 c2] 41)).heap[w.heap.size]? = some (.cells #[.int .i64 4, .int .i64 N, .slice ao l.length cap, .string s, .int .u32 q0, .slice a1 n1 c1, .int .u32 q2, .int .u32 q3, .slice a2 n2 c2] 41 (0, 0)) := heap_alloc_new w _
  refine (program_any _ ao cap l (hv.fr0 f0) HZ.out (by omega)).mono ?_
  rintro e w1 ⟨rfl, ob, f1⟩
  have k1 := f1.heap k0 (fun h => h)
  have F1 : Fr nob w w1 := f0.trans f1
  have c0 : w1.cell? ⟨w.heap.size, 0, none⟩ = some (.int .i64 4) := cell_blk k1 rfl
  have c2' : w1.cell? ⟨w.heap.size, 2, none⟩ = some (.slice ao l.length cap) := cell_blk k1 rfl
  have c3' : w1.cell? ⟨w.heap.size, 3, none⟩ = some (.string s) := cell_blk k1 rfl
  clear f0 k0 f1
  go_wp2_with fail
  rw [World.size_alloc] at ob
  have hvb : View w1 (some ⟨w.heap.size + 1, 0, none⟩) (flat l) := own_view ob (by rw [flat_append, List.take_left'  rfl])
  have hq0 : (0 : Int) ≤ (l.length : Int) := by omega
  have hq1 : (l.length : Int) ≤ (l.length : Int) + 8 := by omega
  have hq2 : (l.length : Int) ≤ ((l.length + 8 : Nat) : Int) := by omega
  go_region_held3 (fun w' => w'.cell? ⟨w.heap.size, 2, none⟩ = some (.slice ao l.length cap) ∧ w'.cell? ⟨w.heap.size, 3, none⟩ = some (.string s)) (first | exact ⟨c2', c3'⟩ | exact ⟨d2, d3⟩)
    ((go_at_call 31; refine (HS.out _ _ (l.length + 8) l (by exact hvb.fr0 ((Fr.refl nob w1).like rfl rfl rfl rfl)) HOK.out s (by omega)).mono ?_; rintro e w2 ⟨rfl, f2⟩; have f2' : Fr nob w1 w2 := ⟨f2.os, f2.tape, f2.output, f2.size, f2.block⟩; have k2 := f2'.heap k1 (fun h => h); have d2 : w2.cell? ⟨w.heap.size, 2, none⟩ = some (.slice ao l.length cap) := cell_blk k2 rfl; have d3 : w2.cell? ⟨w.heap.size, 3, none⟩ = some (.string s) := cell_blk k2 rfl))
  have F2 : Fr nob w w2 := F1.trans f2'
  have hs1 := F1.size
  have ob2 := own_fr ob f2' (fun _ _ h => h)
  have hv2 := hv.fr0 F2
  clear c0 c2' c3' k1 f2 f2' ob hvb
  go_wp2_with fail
  refine (rRun_any _ ao cap l hv2 HOK.out s (by omega)).mono ?_
  rintro e w3 ⟨rfl, f3⟩
  have k3 := f3.heap k2 (fun h => h)
  have F3 : Fr nob w w3 := F2.trans f3
  have ob3 := own_fr ob2 f3 (fun _ _ h => h)
  have hv3 := hv.fr0 F3
  have e3 : w3.cell? ⟨w.heap.size, 2, none⟩ = some (.slice ao l.length cap) := cell_blk k3 rfl
  clear d2 d3 k2 f3 ob2 hv2
  generalize (runA l s).1 = rv
  generalize (runA l s).2.1 = rn
  generalize (runA l s).2.2 = re
  go_wp2_with fail
  refine (kept_any _ (w.heap.size + 1) (l.length + 8) ao cap l (by omega) ob3 hv3).mono ?_
  rintro e w5 ⟨rfl, f5⟩
  have F5 : Fr nob w w5 := F3.trans f5
  have ob5 := own_fr ob3 f5 (fun _ _ h => h)
  have hI5 := hI.fr F5 (fun h => h) (fun _ _ h => h) (fun _ _ h => h)
  have hs5 := F5.size
  clear k3 e3 ob3 f5 hv3
  go_wp2_with fail
  refine (keep_i w5 B wb ps hs F row hI5 (fun x hx => by have := HFL.out x hx; omega) (by omega) (by omega) _ (l.length + 8) (l.length + 8) _ ob5 (by omega) (fun x hx => by
    simp only [bk, Value.ownBlock, Option.some.injEq] at hx
    exact ⟨by omega, fun h => by have := HFL.out x h; omega⟩)).mono ?_
  rintro e w6 ⟨rfl, hs2, row2, hI6, hl6, hh6, hI6', f6, f6''⟩
  have f6' : Ft B w.heap.size _ _ := f6'' w.heap.size (fun x hx => by simp only [bk, Value.ownBlock, Option.some.injEq] at hx; omega)
  have hA6 : At w6 B wb ps hs2 (grow F w w6) := ⟨⟨row2, hI6.mono (fun x hx h => ⟨h.1.elim .inl (fun h => .inr (h.elim (fun h => by omega) (fun h => by simp only [bk, Value.ownBlock, Option.some.injEq] at h; omega))), hx⟩) (fun _ _ _ _ _ h => h)⟩, fun x hx => hx.2, by have := f6'.size; omega⟩
  have F6 : Ft B w.heap.size w w6 := (Ft.ofNob F5).trans f6' (Nat.le_refl _)
  have hl9 : hs2.length ≤ hs.length + 8 := by omega
  have HL := hide hl9
  clear hI5 hI6 hI6' hh6 f6 f6' f6'' ob5 hl6 hl9
  go_wp2
  go_ret
  exact ⟨rfl, hs2, hA6, HL.out, F6⟩

theorem good_run (hS : RunsAs) : StepGood 4 4 := fun B o h1 h2 w1 hs hA hl ho =>
  (step_plain w1 B B _ hs _ hA o ho (by omega) (fun w2 hA2 ho2 => by
    rw [OpR.v, show o.kind = 4 by omega]
    exact plain_run hS w2 B B _ hs _ hA2 hl o.N o.q0 o.q2 o.q3 o.a1 o.a2 o.n1 o.c1 o.n2 o.c2 o.ao o.cap o.l ho2.v ho2.z ho2.l ho2.i o.s ho2.s)).mono (fun e w' ⟨h1, hs', h2, h3, h4⟩ => ⟨h1, hs', h2.all, h3, h4.up⟩)
#print axioms good_run
end Go.Proofs.YtjgcfffepkmojaaGreat
