import Derived.Test.YtjgcfffepkmojabGreatLIns3
import Derived.Test.YtjgcfffepkmojabGreatLStep
import Derived.Deep.RegionHeld3
import Derived.Test.YtjgcfffepkmojabGreatPlainR
namespace Go.Proofs.YtjgcfffepkmojabGreat
open Go.RowKit
set_option linter.unusedVariables false

/-! ### Players -/
theorem wrap_id (x : Int) (h : I64 x) : wrap64 x = x := by
  have h1 := h.1
  have h2 := h.2
  unfold wrap64
  omega
set_option maxRecDepth 100000 in
theorem pick_any (c : Int) (hc : I64 c) (n : Nat) (hn : 0 < n) (hn2 : n ≤ 1000) : ∃ k : Nat, k < n ∧ ∀ w : World, Calls Tryz.prog 12 #[.int .i64 c, .int .i64 n] w fun e w' => e = .returned (.int .i64 k) ∧ w' = w := by
  have nn : ∀ d : Int, 0 ≤ d → ∃ k : Nat, k < n ∧ d.tmod n = k := fun d hd => by
    have h1 := Int.emod_nonneg d (show (n : Int) ≠ 0 by omega)
    have h2 := Int.emod_lt_of_pos d (show (0 : Int) < n by omega)
    rw [Int.tmod_eq_emod_of_nonneg hd]
    exact ⟨(d % (n : Int)).toNat, by omega, by omega⟩
  have c1 := hc.1
  have c2 := hc.2
  by_cases h : c < 0
  · obtain ⟨k, hk, he⟩ := nn (-(c + 1)) (by omega)
    have e1 := wrap_id (c + 1) ⟨by omega, by omega⟩
    have e2 := wrap_id (-(c + 1)) ⟨by omega, by omega⟩
    clear nn
    refine ⟨k, hk, fun w => ?_⟩
    go_enter Tryz.func12, Tryz.ntmps12
    go_wp2
    go_ret
    exact ⟨rfl, rfl⟩
  · obtain ⟨k, hk, he⟩ := nn c (by omega)
    rw [Int.tmod_eq_emod_of_nonneg (by omega)] at he
    clear nn
    refine ⟨k, hk, fun w => ?_⟩
    go_enter Tryz.func12, Tryz.ntmps12
    go_wp2
    go_ret
    exact ⟨rfl, rfl⟩

/-- A player: its own block, the program's stack, the reference's, and what they lie in. -/
structure Pl where
  X : Nat
  v : Value
  g : Nat
  ao : Option Addr
  cap : Nat
  ls : List Prg
  S : Nat → Prop
def Pl.b (p : Pl) : Nat → Prop := PLb p.X p.g p.ao p.cap p.ls p.S
def Pl.at (SK : World → Value → List (List Ins) → (Nat → Prop) → Prop) (w : World) (p : Pl) : Prop := PL SK w p.X p.v p.g p.ao p.cap p.ls p.S
def pps (pl : List Pl) : List Value := pl.map fun p => .pointer (some ⟨p.X, 0, none⟩)
structure Players (SK : World → Value → List (List Ins) → (Nat → Prop) → Prop) (w : World) (B : Nat) (F : Nat → Prop) (pa : Option Addr) (pc : Nat) (pl : List Pl) : Prop where
  own : Own w 52 1 pa pl.length pc (pps pl)
  all : ∀ p ∈ pl, p.at SK w
  sep : pl.Pairwise (fun p q => ∀ x, p.b x → ¬ q.b x)
  apl : ∀ p ∈ pl, ∀ x, p.b x → ¬ bk (.slice pa pl.length pc) x
  lo : ∀ p ∈ pl, ∀ x, p.b x → B ≤ x ∧ ¬ F x
  rlo : ∀ x, bk (.slice pa pl.length pc) x → B ≤ x ∧ ¬ F x
  len : pl.length ≤ 4
  nB : ¬ F B
section
variable {SK : World → Value → List (List Ins) → (Nat → Prop) → Prop}
/-- They stay, where only blocks turn that are none of theirs. -/
theorem Players.fr (hK : StackAs SK) {w w' : World} {B : Nat} {F G T : Nat → Prop} {pa : Option Addr} {pc : Nat} {pl : List Pl} (h : Players SK w B F pa pc pl) (f : Fr T w w') (hT : ∀ x, T x → x < w.heap.size → TW w x) (hG : ∀ x, G x → F x ∨ w.heap.size ≤ x) (hB : B < w.heap.size) : Players SK w' B G pa pc pl := by
  have hr : ∀ x, bk (.slice pa pl.length pc) x → x < w.heap.size := fun x hx => own_lt h.own hx
  have hp : ∀ p ∈ pl, ∀ x, p.b x → x < w.heap.size := fun p hp x hx => (h.all p hp).lt hK x hx
  refine ⟨own_fr h.own f (fun x hx ht => own_ty h.own hx (by decide) (by decide) (hT x ht (hr x hx))), fun p hp' => (h.all p hp').fr hK f (fun x hx ht => (h.all p hp').ty hK x hx (hT x ht (hp p hp' x hx))), h.sep, h.apl, fun p hp' x hx => ⟨(h.lo p hp' x hx).1, fun hg => ?_⟩, fun x hx => ⟨(h.rlo x hx).1, fun hg => ?_⟩, h.len, fun hg => ?_⟩
  · rcases hG x hg with h1 | h1
    · exact (h.lo p hp' x hx).2 h1
    · have := hp p hp' x hx; omega
  · rcases hG x hg with h1 | h1
    · exact (h.rlo x hx).2 h1
    · have := hr x hx; omega
  · rcases hG B hg with h1 | h1
    · exact h.nB h1
    · omega
end
/-- The script's world, with its players. -/
def plW (SK : World → Value → List (List Ins) → (Nat → Prop) → Prop) (B : Nat) (w : World) (hs : List Nat) : Prop := ∃ F pa pc pl, At w B B (.slice pa pl.length pc) hs F ∧ Players SK w B F pa pc pl
section
variable {SK : World → Value → List (List Ins) → (Nat → Prop) → Prop}
theorem At.wb_lt {w : World} {B wb : Nat} {ps : Value} {hs : List Nat} {F : Nat → Prop} (h : At w B wb ps hs F) : wb < w.heap.size := by
  obtain ⟨row, hI⟩ := h.inv
  exact (Array.getElem?_eq_some_iff.1 hI.blk).1
theorem plW_wld (hK : StackAs SK) (B : Nat) : Wld B (plW SK B) := by
  refine ⟨fun w hs ⟨F, pa, pc, pl, h, _⟩ => ?_, fun w w' hs ⟨F, pa, pc, pl, h, hp⟩ f => ⟨F, pa, pc, pl, h.fr f, hp.fr hK f (fun _ h => h.elim) (fun x hx => .inl hx) h.wb_lt⟩, fun w hw => ?_⟩
  · obtain ⟨row, hI⟩ := h.all.inv
    exact ⟨_, row, hI⟩
  · subst hw
    refine ⟨nob, none, 0, [], ⟨⟨nilS, heap_alloc_new w _, World.ownsRow_nil _ _ _ _, rfl, rfl, fun k hk => (by cases hk), Nat.le_refl _, fun x hx => (by simp [bk, nilS, Value.ownBlock] at hx)⟩, fun _ h => h.elim, (by simp)⟩, World.ownsRow_nil _ _ _ _, fun p hp => (by cases hp), List.Pairwise.nil, fun p hp => (by cases hp), fun p hp => (by cases hp), fun x hx => (by simp [bk, Value.ownBlock] at hx), (by simp), fun h => h⟩
/-- A step that knows nothing of players. -/
theorem plW_step (hK : StackAs SK) {B : Nat} {w w' : World} {hs hs' : List Nat} {F : Nat → Prop} {pa : Option Addr} {pc : Nat} {pl : List Pl} (hA : At w B B (.slice pa pl.length pc) hs F) (hp : Players SK w B F pa pc pl) (h : At w' B B (.slice pa pl.length pc) hs' (grow F w w')) (f : Ft B w.heap.size w w') : plW SK B w' hs' :=
  ⟨_, pa, pc, pl, h, hp.fr hK f (fun x hx hl => hx.2.elim (fun h => by omega) (fun h => h)) (fun x hx => hx.1) hA.wb_lt⟩
end
#print axioms plW_step
end Go.Proofs.YtjgcfffepkmojabGreat

namespace Go.Proofs.YtjgcfffepkmojabGreat
open Go.RowKit
set_option linter.unusedVariables false

/-! ### The steps of the players -/
section
variable {SK : World → Value → List (List Ins) → (Nat → Prop) → Prop}
theorem sep_at {pl : List Pl} (h : pl.Pairwise (fun p q => ∀ x, p.b x → ¬ q.b x)) {i j : Nat} {p q : Pl} (hi : pl[i]? = some p) (hj : pl[j]? = some q) (hne : i ≠ j) : ∀ x, p.b x → ¬ q.b x := fun x hx hy => by
  obtain ⟨hil, hie⟩ := List.getElem?_eq_some_iff.1 hi
  obtain ⟨hjl, hje⟩ := List.getElem?_eq_some_iff.1 hj
  rcases Nat.lt_or_ge i j with hl | hl
  · have := List.pairwise_iff_getElem.1 h i j hil hjl hl
    rw [hie, hje] at this
    exact this x hx hy
  · have := List.pairwise_iff_getElem.1 h j i hjl hil (by omega)
    rw [hie, hje] at this
    exact this x hy hx
theorem set_at {pl : List Pl} {k j : Nat} {p' q : Pl} (h : (pl.set k p')[j]? = some q) : (j = k ∧ q = p') ∨ (j ≠ k ∧ pl[j]? = some q) := by
  rw [List.getElem?_set] at h
  by_cases hj : k = j
  · subst hj
    by_cases hl : k < pl.length
    · simp [hl] at h; exact .inl ⟨rfl, h.symm⟩
    · simp [hl] at h
  · simp [hj] at h; exact .inr ⟨fun e => hj e.symm, h⟩
theorem At.frT {w w' : World} {B wb : Nat} {ps : Value} {hs : List Nat} {F T : Nat → Prop} (h : At w B wb ps hs F) (f : Fr T w w') (hT : ∀ x, T x → ¬ TW w x ∧ ¬ F x) : At w' B wb ps hs F := by
  obtain ⟨row, hI⟩ := h.inv
  have hsz := f.size
  exact ⟨⟨row, hI.fr f (fun h => (hT _ h).1 ⟨_, _, _, hI.blk, .inl rfl⟩) (fun x hx h => by
    obtain ⟨c, k, hy⟩ := hI.row_ty hx
    exact (hT x h).1 ⟨c, _, k, hy, .inr rfl⟩) (fun x hx h => (hT x h).2 hx)⟩, fun x hx => by have := h.lt x hx; omega, by have := h.le; omega⟩
/-- The k-th player has turned into another, in old blocks of its own and new ones. -/
theorem Players.turn (hK : StackAs SK) {w w' : World} {B : Nat} {F G T : Nat → Prop} {pa : Option Addr} {pc : Nat} {pl : List Pl} (h : Players SK w B F pa pc pl) {k : Nat} {p p' : Pl} (hk : pl[k]? = some p) (hX : p'.X = p.X) (hp' : p'.at SK w') (hb : ∀ x, p'.b x → p.b x ∨ w.heap.size ≤ x)
    (f : Fr T w w') (hT : ∀ x, T x → x < w.heap.size → TW w x ∨ p.b x) (hG : ∀ x, G x → (F x ∨ w.heap.size ≤ x) ∧ ¬ p'.b x) (hB : B < w.heap.size) : Players SK w' B G pa pc (pl.set k p') := by
  have hkl : k < pl.length := (List.getElem?_eq_some_iff.1 hk).1
  have hpm : p ∈ pl := List.mem_of_getElem? hk
  have hr : ∀ x, bk (.slice pa pl.length pc) x → x < w.heap.size := fun x hx => own_lt h.own hx
  have hp : ∀ p ∈ pl, ∀ x, p.b x → x < w.heap.size := fun p hp x hx => (h.all p hp).lt hK x hx
  have hpp : pps (pl.set k p') = pps pl := by
    unfold pps
    apply List.ext_getElem?
    intro j
    rw [List.getElem?_map, List.getElem?_map, List.getElem?_set]
    by_cases hj : k = j
    · subst hj
      rw [if_pos rfl, if_pos hkl, hk]
      simp only [Option.map_some, hX]
    · rw [if_neg hj]
  have hm : ∀ q ∈ pl.set k p', q = p' ∨ (q ∈ pl ∧ ∀ x, q.b x → ¬ p.b x) := fun q hq => by
    obtain ⟨j, hj⟩ := List.mem_iff_getElem?.1 hq
    rcases set_at hj with ⟨_, e⟩ | ⟨hne, hj'⟩
    · exact .inl e
    · exact .inr ⟨List.mem_of_getElem? hj', sep_at h.sep hj' hk hne⟩
  refine ⟨?_, fun q hq => ?_, ?_, fun q hq x hx => ?_, fun q hq x hx => ?_, fun x hx => ?_, ?_, fun hg => ?_⟩
  · rw [hpp, List.length_set]
    exact own_fr h.own f (fun x hx ht => (hT x ht (hr x hx)).elim (own_ty h.own hx (by decide) (by decide)) (fun hb => h.apl p hpm x hb hx))
  · rcases hm q hq with rfl | ⟨hq', hs⟩
    · exact hp'
    · exact (h.all q hq').fr hK f (fun x hx ht => (hT x ht (hp q hq' x hx)).elim ((h.all q hq').ty hK x hx) (hs x hx))
  · rw [List.pairwise_iff_getElem]
    intro i j hi hj hij x hx hy
    have hi' := List.getElem?_eq_getElem hi
    have hj' := List.getElem?_eq_getElem hj
    rcases set_at hi' with ⟨e1, e2⟩ | ⟨e1, e2⟩
    · rcases set_at hj' with ⟨d1, d2⟩ | ⟨d1, d2⟩
      · omega
      · rw [e2] at hx
        rcases hb x hx with hx | hx
        · exact sep_at h.sep hk d2 (by omega) x hx hy
        · have := hp _ (List.mem_of_getElem? d2) x hy; omega
    · rcases set_at hj' with ⟨d1, d2⟩ | ⟨d1, d2⟩
      · rw [d2] at hy
        rcases hb x hy with hy | hy
        · exact sep_at h.sep e2 hk (by omega) x hx hy
        · have := hp _ (List.mem_of_getElem? e2) x hx; omega
      · exact sep_at h.sep e2 d2 (by omega) x hx hy
  · rw [List.length_set]
    intro hr'
    rcases hm q hq with rfl | ⟨hq', hs⟩
    · rcases hb x hx with hx | hx
      · exact h.apl p hpm x hx hr'
      · have := hr x hr'; omega
    · exact h.apl q hq' x hx hr'
  · rcases hm q hq with rfl | ⟨hq', hs⟩
    · refine ⟨?_, fun hg => (hG x hg).2 hx⟩
      rcases hb x hx with hx | hx
      · exact (h.lo p hpm x hx).1
      · omega
    · refine ⟨(h.lo q hq' x hx).1, fun hg => ?_⟩
      rcases (hG x hg).1 with h1 | h1
      · exact (h.lo q hq' x hx).2 h1
      · have := hp q hq' x hx; omega
  · rw [List.length_set] at hx
    refine ⟨(h.rlo x hx).1, fun hg => ?_⟩
    rcases (hG x hg).1 with h1 | h1
    · exact (h.rlo x hx).2 h1
    · have := hr x hx; omega
  · rw [List.length_set]; exact h.len
  · rcases (hG B hg).1 with h1 | h1
    · exact h.nB h1
    · omega
end

section
variable {SK : World → Value → List (List Ins) → (Nat → Prop) → Prop}
set_option maxRecDepth 100000 in
set_option maxHeartbeats 4000000 in
/-- 'step', where it comes to Judge. -/
theorem step_judge (hK : StackAs SK) (w : World) (B : Nat) (hs : List Nat) (hW : plW SK B w hs) (o : OpR) (ho : o.ok w B) (hk : o.kind = 8) (hlen : hs.length + o.gr ≤ 90000000) :
    Calls Tryz.prog 7 #[.pointer (some ⟨B, 0, none⟩), o.v] w fun e w' => e = .returned (.bool true) ∧ ∃ hs', plW SK B w' hs' ∧ hs'.length ≤ hs.length + o.gr ∧ Fr (up B) w w' := by
  have f0 : Fr nob w (w.alloc (.cells #[.int .i64 o.kind, .int .i64 o.N, .slice o.ao o.l.length o.cap, .string o.s, .int .u32 o.q0, .slice o.a1 o.n1 o.c1, .int .u32 o.q2, .int .u32 o.q3, .slice o.a2 o.n2 o.c2] 41)) := (Fr.refl _ w).alloc _
  have k0 : (w.alloc (.cells #[.int .i64 o.kind, .int .i64 o.N, .slice o.ao o.l.length o.cap, .string o.s, .int .u32 o.q0, .slice o.a1 o.n1 o.c1, .int .u32 o.q2, .int .u32 o.q3, .slice o.a2 o.n2 o.c2] 41)).heap[w.heap.size]? = some (.cells #[.int .i64 o.kind, .int .i64 o.N, .slice o.ao o.l.length o.cap, .string o.s, .int .u32 o.q0, .slice o.a1 o.n1 o.c1, .int .u32 o.q2, .int .u32 o.q3, .slice o.a2 o.n2 o.c2] 41 (0, 0)) := heap_alloc_new w _
  have HK := hide hK
  have HOK := hide ho
  have HW0 := hide ((plW_wld hK B).fr w _ hs hW f0)
  obtain ⟨w0, hw0⟩ : ∃ w0, w0 = (w.alloc (.cells #[.int .i64 o.kind, .int .i64 o.N, .slice o.ao o.l.length o.cap, .string o.s, .int .u32 o.q0, .slice o.a1 o.n1 o.c1, .int .u32 o.q2, .int .u32 o.q3, .slice o.a2 o.n2 o.c2] 41)) := ⟨_, rfl⟩
  have e1 : (o.kind == 1) = false := by simp [hk]
  have e2 : (o.kind == 2) = false := by simp [hk]
  have e3 : (o.kind == 3) = false := by simp [hk]
  have e4 : (o.kind == 4) = false := by simp [hk]
  have e5 : (o.kind == 5) = false := by simp [hk]
  have e6 : (o.kind == 6) = false := by simp [hk]
  have e7 : (o.kind == 7) = false := by simp [hk]
  have e8 : (o.kind == 8) = true := by simp [hk]
  rw [← hw0] at f0 k0 HW0
  have x1 : w0.cell? ⟨w.heap.size, 1, none⟩ = some (.int .i64 o.N) := cell_blk k0 rfl
  obtain ⟨F, pa, pc, pl, hA, hP⟩ := hW
  have hA0 := hA.fr f0
  have hP0 := hP.fr hK f0 (fun _ h => h.elim) (fun x hx => .inl hx) hA.wb_lt
  obtain ⟨row, hI⟩ := hA0.inv
  have b0 : w0.cell? ⟨B, 0, none⟩ = some (.slice pa pl.length pc) := cell_blk hI.blk rfl
  have hBl := hA.wb_lt
  have F0 := hide f0
  have K0 := hide k0
  have HA := hide hA
  have HP := hide hP
  have HP0 := hide hP0
  clear hK ho f0 hA hP hI hk k0 hA0 hP0
  rcases Nat.eq_zero_or_pos pl.length with hz | hz
  · have hpl : pl = [] := List.eq_nil_of_length_eq_zero hz
    subst hpl
    subst hw0
    clear hlen
    go_enter Tryz.func7, Tryz.ntmps7
    go_wp2
    go_ret
    exact ⟨rfl, hs, HW0.out, by omega, F0.out.mono (fun _ _ h => h.elim)⟩
  · obtain ⟨k, hkl, hpick⟩ := pick_any o.N HOK.out.n pl.length hz (by have := HP.out.len; omega)
    obtain ⟨p, hp⟩ : ∃ p, p = pl[k] := ⟨_, rfl⟩
    have hpe : pl[k]? = some p := by rw [hp]; exact List.getElem?_eq_getElem hkl
    have hpm : p ∈ pl := List.mem_of_getElem? hpe
    obtain ⟨gp, rfl⟩ := own_some HP0.out.own hkl
    have r0 := own_get HP0.out.own (show (pps pl)[k]? = some (.pointer (some ⟨p.X, 0, none⟩)) by unfold pps; rw [List.getElem?_map, hpe]; rfl)
    have hki : (k : Int) < (pl.length : Int) := by omega
    have hzi : (0 : Int) < (pl.length : Int) := by omega
    have HPICK := hide hpick
    have HPE := hide hpe
    have HPM := hide hpm
    have HLEN := hide hlen
    clear hpick hpe hpm hp HP0 hlen
    subst hw0
    go_enter Tryz.func7, Tryz.ntmps7
    go_wp2_with fail
    go_quiet ((go_at_call 12; exact Calls.quiet_of_same (HPICK.out _)))
    obtain ⟨wq, hwq⟩ : ∃ wq, wq = (w.alloc (.cells #[.int .i64 o.kind, .int .i64 o.N, .slice o.ao o.l.length o.cap, .string o.s, .int .u32 o.q0, .slice o.a1 o.n1 o.c1, .int .u32 o.q2, .int .u32 o.q3, .slice o.a2 o.n2 o.c2] 41)).drewN nq := ⟨_, rfl⟩
    rw [← hwq]
    have fq : Fr nob (w.alloc (.cells #[.int .i64 o.kind, .int .i64 o.N, .slice o.ao o.l.length o.cap, .string o.s, .int .u32 o.q0, .slice o.a1 o.n1 o.c1, .int .u32 o.q2, .int .u32 o.q3, .slice o.a2 o.n2 o.c2] 41)) wq := by rw [hwq]; exact (Fr.refl _ _).drewN _
    have kq := fq.heap K0.out (fun h => h)
    have fwq : Fr nob w wq := F0.out.trans fq
    have hsw : w.heap.size < wq.heap.size := by have := fq.size; rw [World.size_alloc] at this; omega
    have hAq := HA.out.fr fwq
    have hPq := HP.out.fr HK.out fwq (fun _ h => h.elim) (fun x hx => .inl hx) hBl
    have HBL := hide hBl
    have HOL : Hid (∀ x, p.b x → x < w.heap.size) := (HP.out.all p HPM.out).lt HK.out
    have KQ := hide kq
    have AQ := hide hAq
    have PQ := hide hPq
    have FWQ := hide fwq
    have HPL := hide (hPq.all p HPM.out)
    have HSW := hide hsw
    clear hwq fq K0 HA HP HW0 r0 b0 x1 F0 hBl hAq hPq fwq hsw hzi hki hz
    have x0 : wq.cell? ⟨w.heap.size, 0, none⟩ = some (.int .i64 o.kind) := cell_blk kq rfl
    have x3 : wq.cell? ⟨w.heap.size, 3, none⟩ = some (.string o.s) := cell_blk kq rfl
    have y0 : wq.cell? ⟨p.X, 0, none⟩ = some p.v := cell_blk HPL.out.blk rfl
    have HCALL : Hid (∀ wx, Fr nob wq wx → Calls Tryz.prog 14 #[p.v, .string o.s] wx fun e w' => e = .returned (.tuple #[.int .u32 (jdgA p.ls o.s).1, .int .i64 (jdgA p.ls o.s).2.1, .int .i64 (jdgA p.ls o.s).2.2]) ∧ ∃ S', SK w' p.v (p.ls.map Prg.l) S' ∧ (∀ x, S' x → p.S x ∨ wq.heap.size ≤ x) ∧ Fr p.S wq w') := fun wx fx => by
      have h1 := HK.out.judge wx p.v (p.ls.map Prg.l) p.S o.s (HK.out.fr HPL.out.sk fx (fun _ _ h => h)) HOK.out.s
      rw [jdgA_l] at h1
      exact h1.mono (fun e w' ⟨h1, S', h2, h3, h4⟩ => ⟨h1, S', h2, fun x hx => (h3 x hx).elim .inl (fun h => .inr (by have := fx.size; omega)), (fx.mono (fun _ _ h => h.elim)).trans h4⟩)
    clear kq
    go_wp2_with fail
    go_region_held3 (fun w' => w'.cell? ⟨p.X, 0, none⟩ = some p.v ∧ w'.cell? ⟨w.heap.size, 3, none⟩ = some (.string o.s)) (first | exact ⟨y0, x3⟩ | exact ⟨d0, d3⟩)
      ((go_at_call 14; refine (HCALL.out _ (by exact (Fr.refl nob wq).like rfl rfl rfl rfl)).mono ?_; rintro e w1 ⟨rfl, S1, hS1, hsub1, f1⟩; have kX1 := f1.heap HPL.out.blk (fun h => (HPL.out.ap _ h).1 rfl); have k1 := f1.heap KQ.out (fun h => Nat.lt_irrefl _ (HOL.out _ (.inr (.inl h)))); have d0 : w1.cell? ⟨p.X, 0, none⟩ = some p.v := cell_blk kX1 rfl; have d3 : w1.cell? ⟨w.heap.size, 3, none⟩ = some (.string o.s) := cell_blk k1 rfl))
    have y1 : w1.cell? ⟨p.X, 1, none⟩ = some (.pointer (some ⟨p.g, 0, none⟩)) := cell_blk kX1 rfl
    have so1 := HPL.out.so.frT f1 (fun x hx h => (HPL.out.ap x h).2 hx)
    have HJ : Hid (∀ wx, Fr nob w1 wx → Calls Tryz.prog 15 #[.pointer (some ⟨p.g, 0, none⟩), .string o.s] wx fun e w' => e = .returned (.tuple #[.int .u32 (jdgA p.ls o.s).1, .int .i64 (jdgA p.ls o.s).2.1, .int .i64 (jdgA p.ls o.s).2.2]) ∧ Fr nob w1 w') := fun wx fx =>
      (rJudge_any wx p.g p.ao p.cap p.ls (so1.fr0 fx).sv (by have := HPL.out.le; omega) o.s (by have := HOK.out.s; omega)).mono (fun e w' ⟨h1, h2⟩ => ⟨h1, fx.trans h2⟩)
    have SO1 := hide so1
    have HS1 := hide hS1
    have SUB1 := hide hsub1
    have F1 := hide f1
    have KX1 := hide kX1
    have K1 := hide k1
    clear so1 hS1 hsub1 f1 kX1 k1 HCALL x0 x3 y0
    go_wp2_with fail
    go_region_held3 (fun w' => w'.cell? ⟨p.X, 1, none⟩ = some (.pointer (some ⟨p.g, 0, none⟩)) ∧ w'.cell? ⟨w.heap.size, 3, none⟩ = some (.string o.s)) (first | exact ⟨y1, d3⟩ | exact ⟨g1, g3⟩)
      ((go_at_call 15; refine (HJ.out _ (by exact (Fr.refl nob w1).like rfl rfl rfl rfl)).mono ?_; rintro e w2 ⟨rfl, f2⟩; have g1 : w2.cell? ⟨p.X, 1, none⟩ = some (.pointer (some ⟨p.g, 0, none⟩)) := frc f2 y1; have g3 : w2.cell? ⟨w.heap.size, 3, none⟩ = some (.string o.s) := frc f2 d3))
    have RES : Hid (plW SK B w2 hs ∧ Fr (up B) w w2) := by
      have hsw := HSW.out
      have hb1 : ∀ x, PLb p.X p.g p.ao p.cap p.ls S1 x → p.b x ∨ wq.heap.size ≤ x := fun x hx => by
        rcases hx with h | h | h
        · exact .inl (.inl h)
        · exact (SUB1.out x h).elim (fun h => .inl (.inr (.inl h))) .inr
        · exact .inl (.inr (.inr h))
      have fz : Fr p.S wq w2 := F1.out.trans (f2.mono (fun _ _ h => h.elim))
      have hfl : ∀ x, F x → x < wq.heap.size := AQ.out.lt
      refine ⟨⟨F, _, _, pl.set k ⟨p.X, p.v, p.g, p.ao, p.cap, p.ls, S1⟩, ?_, PQ.out.turn HK.out HPE.out rfl ⟨f2.heap KX1.out (fun h => h), HK.out.fr HS1.out f2 (fun _ _ h => h), SO1.out.fr0 f2, HPL.out.le, fun x hx => ?_⟩ hb1 fz (fun x hx _ => .inr (.inr (.inl hx))) (fun x hx => ⟨.inl hx, fun hb => ?_⟩) (by have := HBL.out; omega)⟩, ?_⟩
      · rw [List.length_set]
        exact AQ.out.frT fz (fun x hx => ⟨HK.out.ty HPL.out.sk x hx, (PQ.out.lo p HPM.out x (.inr (.inl hx))).2⟩)
      · rcases SUB1.out x hx with h | h
        · exact HPL.out.ap x h
        · exact ⟨fun e => by have e' : x = p.X := e; have := HOL.out p.X (.inl rfl); omega, fun ho => by have := HOL.out x (.inr (.inr ho)); omega⟩
      · rcases hb1 x hb with h | h
        · exact (PQ.out.lo p HPM.out x h).2 hx
        · have := hfl x hx; omega
      · exact ((FWQ.out.mono (fun _ _ h => h.elim)).trans (fz.mono (fun x _ h => (PQ.out.lo p HPM.out x (.inr (.inl h))).1)))
    clear f2 g1 g3 y1 d3 HJ SO1 HS1 SUB1 F1 KX1 K1
    generalize (jdgA p.ls o.s).1 = rv
    generalize (jdgA p.ls o.s).2.1 = rn
    generalize (jdgA p.ls o.s).2.2 = re
    go_wp2
    go_ret
    exact ⟨rfl, hs, RES.out.1, by omega, RES.out.2⟩
set_option maxRecDepth 100000 in
set_option maxHeartbeats 4000000 in
/-- 'step', where it comes to Install. -/
theorem step_inst (hK : StackAs SK) (w : World) (B : Nat) (hs : List Nat) (hW : plW SK B w hs) (o : OpR) (ho : o.ok w B) (hk : o.kind = 7) (hlen : hs.length + o.gr ≤ 90000000) :
    Calls Tryz.prog 7 #[.pointer (some ⟨B, 0, none⟩), o.v] w fun e w' => e = .returned (.bool true) ∧ ∃ hs', plW SK B w' hs' ∧ hs'.length ≤ hs.length + o.gr ∧ Fr (up B) w w' := by
  have f0 : Fr nob w (w.alloc (.cells #[.int .i64 o.kind, .int .i64 o.N, .slice o.ao o.l.length o.cap, .string o.s, .int .u32 o.q0, .slice o.a1 o.n1 o.c1, .int .u32 o.q2, .int .u32 o.q3, .slice o.a2 o.n2 o.c2] 41)) := (Fr.refl _ w).alloc _
  have k0 : (w.alloc (.cells #[.int .i64 o.kind, .int .i64 o.N, .slice o.ao o.l.length o.cap, .string o.s, .int .u32 o.q0, .slice o.a1 o.n1 o.c1, .int .u32 o.q2, .int .u32 o.q3, .slice o.a2 o.n2 o.c2] 41)).heap[w.heap.size]? = some (.cells #[.int .i64 o.kind, .int .i64 o.N, .slice o.ao o.l.length o.cap, .string o.s, .int .u32 o.q0, .slice o.a1 o.n1 o.c1, .int .u32 o.q2, .int .u32 o.q3, .slice o.a2 o.n2 o.c2] 41 (0, 0)) := heap_alloc_new w _
  have HK := hide hK
  have HOK := hide ho
  have HW0 := hide ((plW_wld hK B).fr w _ hs hW f0)
  obtain ⟨w0, hw0⟩ : ∃ w0, w0 = (w.alloc (.cells #[.int .i64 o.kind, .int .i64 o.N, .slice o.ao o.l.length o.cap, .string o.s, .int .u32 o.q0, .slice o.a1 o.n1 o.c1, .int .u32 o.q2, .int .u32 o.q3, .slice o.a2 o.n2 o.c2] 41)) := ⟨_, rfl⟩
  have e1 : (o.kind == 1) = false := by simp [hk]
  have e2 : (o.kind == 2) = false := by simp [hk]
  have e3 : (o.kind == 3) = false := by simp [hk]
  have e4 : (o.kind == 4) = false := by simp [hk]
  have e5 : (o.kind == 5) = false := by simp [hk]
  have e6 : (o.kind == 6) = false := by simp [hk]
  have e7 : (o.kind == 7) = true := by simp [hk]
  rw [← hw0] at f0 k0 HW0
  have x1 : w0.cell? ⟨w.heap.size, 1, none⟩ = some (.int .i64 o.N) := cell_blk k0 rfl
  obtain ⟨F, pa, pc, pl, hA, hP⟩ := hW
  have hA0 := hA.fr f0
  have hP0 := hP.fr hK f0 (fun _ h => h.elim) (fun x hx => .inl hx) hA.wb_lt
  obtain ⟨row, hI⟩ := hA0.inv
  have b0 : w0.cell? ⟨B, 0, none⟩ = some (.slice pa pl.length pc) := cell_blk hI.blk rfl
  have hBl := hA.wb_lt
  have F0 := hide f0
  have K0 := hide k0
  have HA := hide hA
  have HP := hide hP
  have HP0 := hide hP0
  clear hK ho f0 hA hP hI hk k0 hA0 hP0
  rcases Nat.eq_zero_or_pos pl.length with hz | hz
  · have hpl : pl = [] := List.eq_nil_of_length_eq_zero hz
    subst hpl
    subst hw0
    clear hlen
    go_enter Tryz.func7, Tryz.ntmps7
    go_wp2
    go_ret
    exact ⟨rfl, hs, HW0.out, by omega, F0.out.mono (fun _ _ h => h.elim)⟩
  · obtain ⟨k, hkl, hpick⟩ := pick_any o.N HOK.out.n pl.length hz (by have := HP.out.len; omega)
    obtain ⟨p, hp⟩ : ∃ p, p = pl[k] := ⟨_, rfl⟩
    have hpe : pl[k]? = some p := by rw [hp]; exact List.getElem?_eq_getElem hkl
    have hpm : p ∈ pl := List.mem_of_getElem? hpe
    obtain ⟨gp, rfl⟩ := own_some HP0.out.own hkl
    have r0 := own_get HP0.out.own (show (pps pl)[k]? = some (.pointer (some ⟨p.X, 0, none⟩)) by unfold pps; rw [List.getElem?_map, hpe]; rfl)
    have hki : (k : Int) < (pl.length : Int) := by omega
    have hzi : (0 : Int) < (pl.length : Int) := by omega
    have HPICK := hide hpick
    have HPE := hide hpe
    have HPM := hide hpm
    have HLEN := hide hlen
    clear hpick hpe hpm hp HP0 hlen
    subst hw0
    go_enter Tryz.func7, Tryz.ntmps7
    go_wp2_with fail
    go_quiet ((go_at_call 12; exact Calls.quiet_of_same (HPICK.out _)))
    obtain ⟨wq, hwq⟩ : ∃ wq, wq = (w.alloc (.cells #[.int .i64 o.kind, .int .i64 o.N, .slice o.ao o.l.length o.cap, .string o.s, .int .u32 o.q0, .slice o.a1 o.n1 o.c1, .int .u32 o.q2, .int .u32 o.q3, .slice o.a2 o.n2 o.c2] 41)).drewN nq := ⟨_, rfl⟩
    rw [← hwq]
    have fq : Fr nob (w.alloc (.cells #[.int .i64 o.kind, .int .i64 o.N, .slice o.ao o.l.length o.cap, .string o.s, .int .u32 o.q0, .slice o.a1 o.n1 o.c1, .int .u32 o.q2, .int .u32 o.q3, .slice o.a2 o.n2 o.c2] 41)) wq := by rw [hwq]; exact (Fr.refl _ _).drewN _
    have kq := fq.heap K0.out (fun h => h)
    have fwq : Fr nob w wq := F0.out.trans fq
    have hsw : w.heap.size < wq.heap.size := by have := fq.size; rw [World.size_alloc] at this; omega
    have hAq := HA.out.fr fwq
    have hPq := HP.out.fr HK.out fwq (fun _ h => h.elim) (fun x hx => .inl hx) hBl
    have HBL := hide hBl
    have HOL : Hid (∀ x, p.b x → x < w.heap.size) := (HP.out.all p HPM.out).lt HK.out
    have KQ := hide kq
    have AQ := hide hAq
    have PQ := hide hPq
    have FWQ := hide fwq
    have HPL := hide (hPq.all p HPM.out)
    have HSW := hide hsw
    clear hwq fq K0 HA HP HW0 r0 b0 x1 F0 hBl hAq hPq fwq hsw hzi hki hz
    have x0 : wq.cell? ⟨w.heap.size, 0, none⟩ = some (.int .i64 o.kind) := cell_blk kq rfl
    have x8 : wq.cell? ⟨w.heap.size, 8, none⟩ = some (.slice o.a2 o.n2 o.c2) := cell_blk kq rfl
    obtain ⟨ss, hn2, hv⟩ := HOK.out.str
    have hgr : o.gr = 12 + 4 * (o.n1 + o.n2) := rfl
    have hcall := installed_any SK HK.out wq B B _ hs F AQ.out p.X p.v p.g p.ao p.cap p.ls p.S HPL.out (fun x hx => PQ.out.lo p HPM.out x hx) o.a2 o.c2 ss (hv.fr (FWQ.out.mono (fun _ _ h => h.elim))) (by have := HLEN.out; omega)
    rw [← hn2] at hcall
    have HCALL := hide hcall
    have HGR := hide hgr
    clear kq hcall hv hn2 hgr
    go_wp2_with fail
    refine HCALL.out.mono ?_
    rintro e w1 ⟨rfl, hs', F', S', ao', cap', ls', hA1, hl1, hpl1, hsub, hF, f1⟩
    have RES : Hid (∃ hs', plW SK B w1 hs' ∧ hs'.length ≤ hs.length + o.gr ∧ Fr (up B) w w1) := by
      have hgr := HGR.out
      have hsw := HSW.out
      refine ⟨hs', ⟨F', _, _, pl.set k ⟨p.X, p.v, p.g, ao', cap', ls', S'⟩, ?_, PQ.out.turn HK.out HPE.out rfl hpl1 hsub f1 (fun x hx hl => ?_) hF (by have := HBL.out; omega)⟩, by omega, ?_⟩
      · rw [List.length_set]
        exact hA1
      · rcases hx.2 with h | h | h | h
        · omega
        · exact .inl h
        · exact .inr (.inr (.inl h))
        · exact .inr (.inr (.inr h))
      · exact (FWQ.out.mono (fun _ _ h => h.elim)).trans (f1.mono (fun x _ h => h.1))
    clear hA1 hl1 hpl1 hsub hF f1
    go_wp2
    go_ret
    exact ⟨rfl, RES.out⟩
end
end Go.Proofs.YtjgcfffepkmojabGreat

namespace Go.Proofs.YtjgcfffepkmojabGreat
open Go.RowKit
set_option linter.unusedVariables false

/-! ### A new player -/
theorem info_playerp : (Tryz.prog.info? 52).map (fun i => (i.zero, i.size, i.bytes)) = some (some (.pointer none), 1, 8) := by kernel_rfl
theorem Inv.setps {w : World} {B wb : Nat} {ps : Value} {hs : List Nat} {F : Nat → Prop} {Q : Q4} {row : Sl} (h : Inv w B wb ps hs F Q row) (hF : ¬ F wb) (u : Value) : Inv (w.setCell ⟨wb, 0, none⟩ u) B wb u hs F Q row :=
  ⟨heap_set h.blk, own_put h.own h.blk (by decide), h.xs, h.n, fun k hk => (h.all k hk).fr (fr_set _ _ _ _) (fun x hx e => hF (e ▸ hx)), h.lob, h.lor⟩
section
variable {SK : World → Value → List (List Ins) → (Nat → Prop) → Prop}
set_option maxRecDepth 100000 in
set_option maxHeartbeats 4000000 in
/-- 'step', where it comes to New. -/
theorem step_new (hK : StackAs SK) (w : World) (B : Nat) (hs : List Nat) (hW : plW SK B w hs) (o : OpR) (ho : o.ok w B) (hk : o.kind = 6) :
    Calls Tryz.prog 7 #[.pointer (some ⟨B, 0, none⟩), o.v] w fun e w' => e = .returned (.bool true) ∧ ∃ hs', plW SK B w' hs' ∧ hs'.length ≤ hs.length + o.gr ∧ Fr (up B) w w' := by
  obtain ⟨i0, hi, hz0, hz1, hz2⟩ := info_parts info_playerp
  have f0 : Fr nob w (w.alloc (.cells #[.int .i64 o.kind, .int .i64 o.N, .slice o.ao o.l.length o.cap, .string o.s, .int .u32 o.q0, .slice o.a1 o.n1 o.c1, .int .u32 o.q2, .int .u32 o.q3, .slice o.a2 o.n2 o.c2] 41)) := (Fr.refl _ w).alloc _
  have e1 : (o.kind == 1) = false := by simp [hk]
  have e2 : (o.kind == 2) = false := by simp [hk]
  have e3 : (o.kind == 3) = false := by simp [hk]
  have e4 : (o.kind == 4) = false := by simp [hk]
  have e5 : (o.kind == 5) = false := by simp [hk]
  have e6 : (o.kind == 6) = true := by simp [hk]
  have HK := hide hK
  have HNEW := hide (hK.new (w.alloc (.cells #[.int .i64 o.kind, .int .i64 o.N, .slice o.ao o.l.length o.cap, .string o.s, .int .u32 o.q0, .slice o.a1 o.n1 o.c1, .int .u32 o.q2, .int .u32 o.q3, .slice o.a2 o.n2 o.c2] 41)))
  have HW := hide hW
  have F0 := hide f0
  clear hK hW ho hk f0
  go_enter Tryz.func7, Tryz.ntmps7
  go_wp2_with fail
  refine HNEW.out.mono ?_
  rintro e w1 ⟨a, S, rfl, hS, hnew, f1⟩
  have fw1 : Fr nob w w1 := F0.out.trans f1
  have HW1 := hide ((plW_wld HK.out B).fr w _ hs HW.out fw1)
  have hnw : ∀ x, S x → w.heap.size ≤ x := fun x hx => by have := hnew x hx; rw [World.size_alloc] at this; omega
  obtain ⟨F, pa, pc, pl, hA, hP⟩ := HW.out
  have hA1 := hA.fr fw1
  have hP1 := hP.fr HK.out fw1 (fun _ h => h.elim) (fun x hx => .inl hx) hA.wb_lt
  have HFL := hide hA.lt
  have HOLD : Hid (∀ p ∈ pl, ∀ x, p.b x → x < w.heap.size) := fun p hp x hx => (hP.all p hp).lt HK.out x hx
  have HROW : Hid (∀ x, bk (.slice pa pl.length pc) x → x < w.heap.size) := fun x hx => own_lt hP.own hx
  have hA1' := hide hA1
  have hBl := hA.wb_lt
  have s1 := fw1.size
  obtain ⟨row, hI⟩ := hA1.inv
  have b0 : w1.cell? ⟨B, 0, none⟩ = some (.slice pa pl.length pc) := cell_blk hI.blk rfl
  have z0 : w1.frozen? ⟨B, 0, none⟩ = false := frozen_blk hI.blk
  have HI := hide hI
  have HP1 := hide hP1
  have HS := hide hS
  have HNW := hide hnw
  have FW1 := hide fw1
  have HBL := hide hBl
  clear hI hA hP hA1 hP1 hS hnew hnw fw1 f1 HNEW F0 hBl
  by_cases h4 : pl.length < 4
  · have h4i : (pl.length : Int) < 4 := by omega
    have fx : Fr nob w1 (((w1.alloc (.cells #[.slice none 0 0] 56)).alloc (.cells #[.pointer (some a), .pointer (some ⟨w1.heap.size, 0, none⟩)] 58)).alloc (.cells #[.pointer (some ⟨w1.heap.size + 1, 0, none⟩)] 52)) := (((Fr.refl _ w1).alloc _).alloc _).alloc _
    have ox := own_fr HP1.out.own fx (fun _ _ h => h)
    have FX := hide fx
    have OX := hide ox
    clear fx ox
    go_wp2_with (at_builtin; refine wpList_append_keep _ rfl _ _ 43 rfl 52 i0 (.pointer none) 1 8 Tryz.underlying43 hi hz0 hz1 hz2 rfl (by decide) pa pl.length pc (pps pl) rfl OX.out ⟨w1.heap.size + 2, 0, none⟩ 1 1 [.pointer (some ⟨w1.heap.size + 1, 0, none⟩)] rfl rfl ?c1 ?c2 (by decide) ?c3 ?c4 (w1.heap.size + 3) (by simp) ?_)
    case c1 =>
      have h := heap_alloc_new ((w1.alloc (.cells #[.slice none 0 0] 56)).alloc (.cells #[.pointer (some a), .pointer (some ⟨w1.heap.size, 0, none⟩)] 58)) (.cells #[.pointer (some ⟨w1.heap.size + 1, 0, none⟩)] 52)
      rw [World.size_alloc, World.size_alloc] at h
      exact World.news_of_block h
    case c2 => intro u hu; simp at hu; subst hu; rfl
    case c3 => unfold maxLen; omega
    case c4 => omega
    intro gp cp w3 o' _ f3 hat
    have hgp : gp < w3.heap.size := own_lt o' (by simp [bk, Value.ownBlock])
    have s3 := f3.size
    rw [World.size_alloc, World.size_alloc, World.size_alloc] at s3
    have hBl := HBL.out
    have PLX : Hid (PL SK w3 (w1.heap.size + 1) (.pointer (some a)) w1.heap.size none 0 [] S) := by
      have k1 := heap_alloc_new w1 (.cells #[.slice none 0 0] 56)
      have k2 := heap_alloc_new (w1.alloc (.cells #[.slice none 0 0] 56)) (.cells #[.pointer (some a), .pointer (some ⟨w1.heap.size, 0, none⟩)] 58)
      rw [World.size_alloc] at k2
      have k1' := blk_alloc (o' := .cells #[.pointer (some ⟨w1.heap.size + 1, 0, none⟩)] 52) (blk_alloc (o' := .cells #[.pointer (some a), .pointer (some ⟨w1.heap.size, 0, none⟩)] 58) k1)
      have k2' := blk_alloc (o' := .cells #[.pointer (some ⟨w1.heap.size + 1, 0, none⟩)] 52) k2
      refine PL.fr HK.out (w := (((w1.alloc (.cells #[.slice none 0 0] 56)).alloc (.cells #[.pointer (some a), .pointer (some ⟨w1.heap.size, 0, none⟩)] 58)).alloc (.cells #[.pointer (some ⟨w1.heap.size + 1, 0, none⟩)] 52))) ⟨k2', HK.out.fr HS.out FX.out (fun _ _ h => h), ⟨k1', World.ownsRow_nil _ _ _ _, fun q hq => by cases hq⟩, by simp, fun x hx => ⟨by have := HK.out.lt HS.out x hx; omega, fun h => ?_⟩⟩ f3 (fun x hx hr => ?_)
      · have := HK.out.lt HS.out x hx
        rcases h with h | h | ⟨q, hq, _⟩
        · omega
        · simp [bk, Value.ownBlock] at h
        · cases hq
      · have := HROW.out x hr
        rcases hx with h | h | h | h | ⟨q, hq, _⟩
        · omega
        · have := HNW.out x h; omega
        · omega
        · simp [bk, Value.ownBlock] at h
        · cases hq
    have hAx := hA1'.out.fr FX.out
    have hPx := HP1.out.fr HK.out FX.out (fun _ h => h.elim) (fun x hx => .inl hx) (by omega)
    have hA3 := hAx.frT f3 (fun x hx => ⟨own_ty hPx.own hx (by decide) (by decide), (hPx.rlo x hx).2⟩)
    obtain ⟨row3, hI3⟩ := hA3.inv
    have d0 : w3.cell? ⟨B, 0, none⟩ = some (.slice pa pl.length pc) := cell_blk hI3.blk rfl
    have d1 : w3.frozen? ⟨B, 0, none⟩ = false := frozen_blk hI3.blk
    have RES : Hid (plW SK B (w3.setCell ⟨B, 0, none⟩ (.slice (some ⟨gp, 0, none⟩) (pl.length + 1) cp)) hs ∧ Fr (up B) w (w3.setCell ⟨B, 0, none⟩ (.slice (some ⟨gp, 0, none⟩) (pl.length + 1) cp))) := by
      have fs := fr_set w3 B 0 (.slice (some ⟨gp, 0, none⟩) (pl.length + 1) cp)
      have hB3 : TW w3 B := ⟨_, _, _, hI3.blk, .inl rfl⟩
      have hnb : ∀ x, PLb (w1.heap.size + 1) w1.heap.size none 0 [] S x → w.heap.size ≤ x ∧ x ≤ w1.heap.size + 1 := fun x hx => by
        rcases hx with h | h | h | h | ⟨q, hq, _⟩
        · omega
        · have := HNW.out x h; have := HK.out.lt HS.out x h; omega
        · omega
        · simp [bk, Value.ownBlock] at h
        · cases hq
      have hgr : ∀ x, bk (.slice (some ⟨gp, 0, none⟩) (pl.length + 1) cp) x → bk (.slice pa pl.length pc) x ∨ x = w1.heap.size + 3 := fun x hx => by
        simp only [bk, Value.ownBlock, Option.some.injEq] at hx
        subst hx
        exact hat
      refine ⟨⟨F, some ⟨gp, 0, none⟩, cp, pl ++ [⟨w1.heap.size + 1, .pointer (some a), w1.heap.size, none, 0, [], S⟩], ?_, ?_, fun p hp => ?_, ?_, fun p hp x hx hr => ?_, fun p hp x hx => ?_, fun x hx => ?_, ?_, hPx.nB⟩, ?_⟩
      · rw [List.length_append]
        exact ⟨⟨row3, hI3.setps hPx.nB _⟩, fun x hx => by have := HFL.out x hx; have := fs.size; omega, by have := fs.size; omega⟩
      · rw [List.length_append]
        have h9 := own_put (j := 0) (u := .slice (some ⟨gp, 0, none⟩) (pl.length + 1) cp) o' hI3.blk (by decide)
        unfold pps at h9 ⊢
        rw [List.map_append]
        exact h9
      · rcases List.mem_append.1 hp with h | h
        · have p3 : p.at SK w3 := PL.fr HK.out (hPx.all p h) f3 (fun x hx hr => hPx.apl p h x hx hr)
          exact PL.fr HK.out p3 fs (fun x hx e => PL.ty HK.out p3 x hx (by rw [show x = B from e]; exact hB3))
        · simp at h
          subst h
          exact PL.fr HK.out PLX.out fs (fun x hx e => PL.ty HK.out PLX.out x hx (by rw [show x = B from e]; exact hB3))
      · rw [List.pairwise_append]
        exact ⟨hPx.sep, by simp, fun p hp q hq x hx hy => by
          simp at hq
          subst hq
          have := HOLD.out p hp x hx
          have := hnb x hy
          omega⟩
      · rw [List.length_append] at hr
        rcases List.mem_append.1 hp with h | h
        · rcases hgr x hr with h2 | h2
          · exact hPx.apl p h x hx h2
          · have := HOLD.out p h x hx; omega
        · simp at h
          subst h
          have h3 := hnb x hx
          rcases hgr x hr with h2 | h2
          · have := HROW.out x h2; omega
          · omega
      · rcases List.mem_append.1 hp with h | h
        · exact hPx.lo p h x hx
        · simp at h
          subst h
          have h3 := hnb x hx
          exact ⟨by omega, fun hf => by have := HFL.out x hf; omega⟩
      · rw [List.length_append] at hx
        rcases hgr x hx with h2 | h2
        · exact hPx.rlo x h2
        · exact ⟨by omega, fun hf => by have := HFL.out x hf; omega⟩
      · simp; omega
      · exact (((FW1.out.trans FX.out).mono (fun _ _ h => h.elim)).trans (f3.mono (fun x _ h => (hPx.rlo x h).1))).trans (fs.mono (fun x _ h => by rw [show x = B from h]; exact Nat.le_refl _))
    clear o' f3 hat hgp s3 PLX hAx hPx hA3 hI3 b0 z0 HP1 HI HS HNW OX FX HW1
    go_wp2
    go_ret
    exact ⟨rfl, hs, RES.out.1, by omega, RES.out.2⟩
  · have h4i : ¬ (pl.length : Int) < 4 := by omega
    clear HI HP1 z0 HS HNW HFL
    go_wp2
    go_ret
    exact ⟨rfl, hs, HW1.out, by omega, FW1.out.mono (fun _ _ h => h.elim)⟩
/-- New, Install, Judge are as they must be. -/
theorem good_players (hK : StackAs SK) : StepG (plW SK) 6 8 := fun B o h1 h2 w1 hs hW hl ho => by
  rcases (show o.kind = 6 ∨ o.kind = 7 ∨ o.kind = 8 by omega) with h | h | h
  · exact step_new hK w1 B hs hW o ho h
  · exact step_inst hK w1 B hs hW o ho h hl
  · exact step_judge hK w1 B hs hW o ho h hl
end
#print axioms good_players
end Go.Proofs.YtjgcfffepkmojabGreat

namespace Go.Proofs.YtjgcfffepkmojabGreat
open Go.RowKit
set_option linter.unusedVariables false

/-! ### Every kind of step -/
section
variable {SK : World → Value → List (List Ins) → (Nat → Prop) → Prop}
theorem plW_plain (hK : StackAs SK) (B : Nat) (w1 : World) (hs : List Nat) (hW : plW SK B w1 hs) (hl : hs.length ≤ 90000000) (o : OpR) (ho : o.ok w1 B) (hk : o.kind = 1 ∨ o.kind = 2 ∨ o.kind = 3 ∨ o.kind = 4)
    (hp : ∀ (ps : Value) (F : Nat → Prop) (w2 : World), At w2 B B ps hs F → o.ok w2 B → Calls Tryz.prog 9 #[.pointer (some ⟨B, 0, none⟩), o.v] w2 fun e w' => e = .returned (.bool true) ∧ ∃ hs', At w' B B ps hs' (grow F w2 w') ∧ hs'.length ≤ hs.length + 8 ∧ Ft B w2.heap.size w2 w') :
    Calls Tryz.prog 7 #[.pointer (some ⟨B, 0, none⟩), o.v] w1 fun e w' => e = .returned (.bool true) ∧ ∃ hs', plW SK B w' hs' ∧ hs'.length ≤ hs.length + o.gr ∧ Fr (up B) w1 w' := by
  obtain ⟨F, pa, pc, pl, hA, hP⟩ := hW
  refine (step_plain w1 B B _ hs F hA o ho hk (fun w2 h2 ho2 => hp _ F w2 h2 ho2)).mono ?_
  rintro e w' ⟨h1, hs', h2, h3, h4⟩
  exact ⟨h1, hs', plW_step hK hA hP h2 h4, by unfold OpR.gr; omega, h4.up⟩
/-- All kinds of steps are as they must be. -/
theorem good_all (hK : StackAs SK) (comp : Int → Int → Int → List RD → List Ins × Int) (hC : CompilesAs comp) (hR : RunsAs) : StepG (plW SK) 1 8 := fun B o h1 h2 w1 hs hW hl ho => by
  by_cases h6 : 6 ≤ o.kind
  · exact good_players hK B o h6 h2 w1 hs hW hl ho
  · rcases (show o.kind = 1 ∨ o.kind = 2 ∨ o.kind = 3 ∨ o.kind = 4 ∨ o.kind = 5 by omega) with h | h | h | h | h
    · exact plW_plain hK B w1 hs hW (by omega) o ho (by omega) (fun ps F w2 hA2 ho2 => plain_wire w2 B B ps hs F hA2 (by omega) o ho2 (by omega))
    · exact plW_plain hK B w1 hs hW (by omega) o ho (by omega) (fun ps F w2 hA2 ho2 => plain_wire w2 B B ps hs F hA2 (by omega) o ho2 (by omega))
    · exact plW_plain hK B w1 hs hW (by omega) o ho (by omega) (fun ps F w2 hA2 ho2 => by
        rw [OpR.v, h]
        exact plain_check w2 B B ps hs F hA2 (by omega) o.N o.q0 o.q2 o.q3 o.a1 o.a2 o.n1 o.c1 o.n2 o.c2 o.ao o.cap o.l ho2.v ho2.z ho2.l ho2.i o.s)
    · exact plW_plain hK B w1 hs hW (by omega) o ho (by omega) (fun ps F w2 hA2 ho2 => by
        rw [OpR.v, h]
        exact plain_run hR w2 B B ps hs F hA2 (by omega) o.N o.q0 o.q2 o.q3 o.a1 o.a2 o.n1 o.c1 o.n2 o.c2 o.ao o.cap o.l ho2.v ho2.z ho2.l ho2.i o.s ho2.s)
    · obtain ⟨F, pa, pc, pl, hA, hP⟩ := hW
      refine (step_comp comp hC w1 B B _ hs F hA o ho h hl).mono ?_
      rintro e w' ⟨h1, hs', h2, h3, h4⟩
      exact ⟨h1, hs', plW_step hK hA hP h2 h4, h3, h4.up⟩
end
#print axioms good_all
end Go.Proofs.YtjgcfffepkmojabGreat
