import Derived.Test.YtjgcfffepkmojabGreatLUnh
import Derived.Test.YtjgcfffepkmojabGreatRAsk
import Derived.Test.YtjgcfffepkmojabGreatFront
import Derived.Test.YtjgcfffepkmojabGreatRRun
import Derived.Test.YtjgcfffepkmojabGreatCSpec
namespace Go.Proofs.YtjgcfffepkmojabGreat
open Go.RowKit
set_option linter.unusedVariables false

/-! ### Compile, as a step -/
/-- What a rule says, wherever it lies. -/
def Rul.d (x : Rul) : RD := (x.number, x.ts, x.verdict)
/-- What is asked of a rule that is handed in. -/
def Rul.fit (x : Rul) : Prop := x.ts.length ≤ 10000000 ∧ (x.ta = none → x.ts.length = 0) ∧ U32 x.number ∧ U32 x.verdict ∧ ∀ t ∈ x.ts, t.rng
/-- The program's Compile: what it makes depends on what the policy says, and does what it must. -/
structure CompilesAs (comp : Int → Int → Int → List RD → List Ins × Int) : Prop where
  call : ∀ (w : World) (arch els oth : Int) (ao : Option Addr) (cap : Nat) (rs : List Rul), RV w ao rs → rs.length ≤ 10000000 → (∀ x ∈ rs, x.fit) → U32 arch → U32 els → U32 oth →
    Calls Tryz.prog 31 #[.agg #[.int .u32 arch, .slice ao rs.length cap, .int .u32 els, .int .u32 oth]] w fun e w' =>
      ∃ a c, e = .returned (.tuple #[.slice a (comp arch els oth (rs.map Rul.d)).1.length c, .int .i64 (comp arch els oth (rs.map Rul.d)).2]) ∧ Own w' 29 4 a (comp arch els oth (rs.map Rul.d)).1.length c (flat (comp arch els oth (rs.map Rul.d)).1) ∧
        (∀ x, bk (.slice a (comp arch els oth (rs.map Rul.d)).1.length c) x → w.heap.size ≤ x) ∧ Fr nob w w'
  bad : ∀ (arch els oth : Int) (rs : List Rul), (∀ x ∈ rs, x.fit) → mayS rs = false → comp arch els oth (rs.map Rul.d) = ([], 11)
  good : ∀ (arch els oth : Int) (rs : List Rul), (∀ x ∈ rs, x.fit) → U32 arch → U32 els → U32 oth → mayS rs = true → (comp arch els oth (rs.map Rul.d)).2 = 0 ∧ Fine (comp arch els oth (rs.map Rul.d)).1 ∧ ∀ r : ByteArray, r.size = 64 → ver (comp arch els oth (rs.map Rul.d)).1 r = askS arch els oth rs r

theorem lent_d (rs : List Rul) (gs : List Nat) (h : gs.length = rs.length) : (lentL rs gs).map Rul.d = rs.map Rul.d := by
  induction rs generalizing gs with
  | nil => rfl
  | cons x rs ih =>
    cases gs with
    | nil => simp at h
    | cons g gs =>
      simp only [lentL, List.zipWith_cons_cons, List.map_cons]
      rw [show (List.zipWith lentR rs gs).map Rul.d = (lentL rs gs).map Rul.d from rfl, ih gs (by simpa using h)]
      rfl
theorem lent_mem {rs : List Rul} {gs : List Nat} {y : Rul} (h : y ∈ lentL rs gs) : ∃ (j : Nat) (x : Rul) (g : Nat), rs[j]? = some x ∧ gs[j]? = some g ∧ y = lentR x g := by
  obtain ⟨j, hj⟩ := List.mem_iff_getElem?.1 h
  unfold lentL at hj
  rw [List.getElem?_zipWith] at hj
  cases hx : rs[j]? with
  | none => rw [hx] at hj; simp at hj
  | some x =>
    cases hg : gs[j]? with
    | none => rw [hx, hg] at hj; simp at hj
    | some g => rw [hx, hg] at hj; simp at hj; exact ⟨j, x, g, hx, hg, hj.symm⟩
/-- The policy that is lent reads as the first. -/
theorem PS.rv {w0 w : World} {rs : List Rul} {R0 : Nat} {ta : Option Addr} {tc : Nat} {gs : List Nat} (h : PS w0 w rs R0 rs.length ta tc gs) : RV w (some ⟨R0, 0, none⟩) (lentL rs gs) := by
  refine ⟨own_view h.rules ?_, fun y hy => ?_⟩
  · rw [List.take_length, List.take_left']
    rfl
  · obtain ⟨j, x, g, h1, h2, rfl⟩ := lent_mem hy
    exact own_view (h.own j x g h1 h2) (by rw [show (lentR x g).ts = x.ts from rfl, List.take_left' rfl])
theorem lent_fit {rs : List Rul} {gs : List Nat} (h : ∀ x ∈ rs, x.fit) : ∀ y ∈ lentL rs gs, y.fit := fun y hy => by
  obtain ⟨j, x, g, h1, h2, rfl⟩ := lent_mem hy
  have hx := h x (List.mem_of_getElem? h1)
  exact ⟨hx.1, fun e => (by cases e), hx.2.2⟩
theorem PS.fr' {w0 w w' : World} {rs : List Rul} {R0 i : Nat} {ta : Option Addr} {tc : Nat} {gs : List Nat} (h : PS w0 w rs R0 i ta tc gs) (f : Fr nob w w') : PS w0 w' rs R0 i ta tc gs :=
  ⟨h.len, h.le, own_fr h.rules f (fun _ _ h => h), own_fr h.list f (fun _ _ h => h), fun j x g h1 h2 => own_fr (h.own j x g h1 h2) f (fun _ _ h => h), fun g hg => ⟨(h.new g hg).1, Nat.lt_of_lt_of_le (h.new g hg).2 f.size⟩, h.inc, h.newR, h.newL, h.fr.trans f⟩
theorem lent_length {rs : List Rul} {gs : List Nat} (h : gs.length = rs.length) : (lentL rs gs).length = rs.length := by simp [lentL, h]

set_option maxRecDepth 100000 in
set_option maxHeartbeats 4000000 in
theorem compiled_any (comp : Int → Int → Int → List RD → List Ins × Int) (hC : CompilesAs comp) (w : World) (B wb : Nat) (ps : Value) (hs : List Nat) (F : Nat → Prop) (hA : At w B wb ps hs F) (N q0 q2 q3 : Int) (ao : Option Addr) (n cap : Nat) (s : ByteArray) (hsz : s.size ≤ 10000000) (a1 : Option Addr) (c1 : Nat) (a2 : Option Addr) (n2 c2 : Nat)
    (rs : List Rul) (hp : PolV w B a1 rs) (hq : U32 q0 ∧ U32 q2 ∧ U32 q3) (hlen : hs.length + 4 * rs.length ≤ 90000000) :
    Calls Tryz.prog 10 #[.pointer (some ⟨wb, 0, none⟩), opV 5 N ao n cap s q0 a1 rs.length c1 q2 q3 a2 n2 c2] w fun e w' => e = .returned (.bool true) ∧ ∃ hs', At w' B wb ps hs' (grow F w w') ∧ hs'.length ≤ hs.length + 12 + 4 * rs.length ∧ Ft B w.heap.size w w' := by
  have hfit : ∀ x ∈ rs, x.fit := fun x hx => ⟨(hp.t x hx).1.2.2, (hp.t x hx).1.2.1, (hp.t x hx).2⟩
  have hrl : rs.length ≤ 10000000 := hp.b.2.2
  obtain ⟨row, hI⟩ := hA.inv
  have hB := hA.le
  have HFL := hide hA.lt
  have HC := hide hC
  have HP := hide hp
  have HQ := hide hq
  have HFIT := hide hfit
  have HI := hide hI
  obtain ⟨L, hL⟩ : ∃ L, L = (comp q0 q2 q3 (rs.map Rul.d)).1 := ⟨_, rfl⟩
  obtain ⟨er, her⟩ : ∃ er, er = (comp q0 q2 q3 (rs.map Rul.d)).2 := ⟨_, rfl⟩
  have HL := hide hL
  have HER := hide her
  clear hC hp hq hfit hI hA hL her
  have f0 : Fr nob w (w.alloc (.cells #[.int .i64 5, .int .i64 N, .slice ao n cap, .string s, .int .u32 q0, .slice a1 rs.length c1, .int .u32 q2, .int .u32 q3, .slice a2 n2 c2] 41)) := (Fr.refl _ w).alloc _
  have k0 : (w.alloc (.cells #[.int .i64 5, .int .i64 N, .slice ao n cap, .string s, .int .u32 q0, .slice a1 rs.length c1, .int .u32 q2, .int .u32 q3, .slice a2 n2 c2] 41)).heap[w.heap.size]? = some (.cells #[.int .i64 5, .int .i64 N, .slice ao n cap, .string s, .int .u32 q0, .slice a1 rs.length c1, .int .u32 q2, .int .u32 q3, .slice a2 n2 c2] 41 (0, 0)) := heap_alloc_new w _
  go_enter Tryz.func10, Tryz.ntmps10
  go_wp2_with fail
  refine (policy_any _ q0 q2 q3 a1 c1 rs (HP.out.rv.fr0 f0) hrl (fun x hx => (HFIT.out x hx).1) (fun x hx => (HFIT.out x hx).2.1)).mono ?_
  rintro e w1 ⟨R0, ta, tc, gs, rfl, ps1⟩
  have hgl := ps1.len
  have F1 := hide (f0.trans ps1.fr)
  have K1 := hide (ps1.fr.heap k0 (fun h => h))
  have PS1 := hide ps1
  have hO : w.heap.size < w1.heap.size := by have := ps1.fr.size; rw [World.size_alloc] at this; omega
  obtain ⟨O, hOe⟩ : ∃ O, O = w.heap.size := ⟨_, rfl⟩
  rw [← hOe] at K1
  have HO := hide hOe
  rw [← hOe]
  clear f0 k0 ps1 hOe
  have o4 : w1.cell? ⟨O, 4, none⟩ = some (.int .u32 q0) := cell_blk K1.out rfl
  have fA : Fr nob w1 (w1.alloc (.cells #[.int .u32 q0, .slice (some ⟨R0, 0, none⟩) rs.length (rs.length + 8), .int .u32 q2, .int .u32 q3] 38)) := (Fr.refl _ w1).alloc _
  have hcall := HC.out.call (w1.alloc (.cells #[.int .u32 q0, .slice (some ⟨R0, 0, none⟩) rs.length (rs.length + 8), .int .u32 q2, .int .u32 q3] 38)) q0 q2 q3 (some ⟨R0, 0, none⟩) (rs.length + 8) (lentL rs gs) (PS1.out.rv.fr0 fA) (by rw [lent_length hgl]; exact hrl) (lent_fit HFIT.out) HQ.out.1 HQ.out.2.1 HQ.out.2.2
  rw [lent_d rs gs hgl, lent_length hgl, ← HL.out, ← HER.out] at hcall
  have HCALL := hide hcall
  have FA := hide fA
  clear hcall fA o4
  go_wp2_with fail
  refine HCALL.out.mono ?_
  rintro e w2 ⟨la, lc, rfl, lo, lnew, f2⟩
  have f12 : Fr nob w1 w2 := FA.out.trans f2
  have PS2 := hide (PS1.out.fr' f12)
  have F2 := hide (F1.out.trans f12)
  have K2 := hide (f12.heap K1.out (fun h => h))
  have s12 := f12.size
  have hln : ∀ x, bk (.slice la L.length lc) x → w1.heap.size ≤ x := fun x hx => by have := lnew x hx; rw [World.size_alloc] at this; omega
  have LO := hide lo
  have LN := hide hln
  have u4 : w2.cell? ⟨O, 4, none⟩ = some (.int .u32 q0) := cell_blk K2.out rfl
  have u5 : w2.cell? ⟨O, 5, none⟩ = some (.slice a1 rs.length c1) := cell_blk K2.out rfl
  have u6 : w2.cell? ⟨O, 6, none⟩ = some (.int .u32 q2) := cell_blk K2.out rfl
  have u7 : w2.cell? ⟨O, 7, none⟩ = some (.int .u32 q3) := cell_blk K2.out rfl
  clear HCALL FA lo lnew f2 f12 hln PS1 F1 K1
  go_wp2_with fail
  refine (unhurt_any _ w2 q0 q2 q3 a1 c1 rs (HP.out.rv.fr0 F2.out) hrl (fun x hx => (HFIT.out x hx).1) R0 ta tc gs PS2.out).mono ?_
  rintro e w3 ⟨rfl, f3⟩
  have s3 := f3.size
  have PS3 := hide (PS2.out.fr' f3)
  have F3 := hide (F2.out.trans f3)
  have K3 := hide (f3.heap K2.out (fun h => h))
  have LO3 := hide (own_fr LO.out f3 (fun _ _ h => h))
  have hI3 := HI.out.fr F3.out (fun h => h) (fun _ _ h => h) (fun _ _ h => h)
  have hw3 := F3.out.size
  have q := PS3.out
  have hRw : w.heap.size ≤ R0 := by have := q.newR; rw [World.size_alloc] at this; omega
  have hkeep := keep_r w3 B wb ps hs F row hI3 (fun x hx => by have := HFL.out x hx; omega) (by omega) (by omega) (some ⟨R0, 0, none⟩) (rs.length + 8) (rs.length + 8) _ q.rules (by omega) (fun x hx => by simp only [bk, Value.ownBlock, Option.some.injEq] at hx; exact ⟨by omega, fun h => by have := HFL.out x h; omega⟩)
  have HK := hide hkeep
  clear f3 u4 u5 u6 u7 PS2 F2 K2 LO HI hI3 hkeep q
  go_wp2_with fail
  refine HK.out.mono ?_
  rintro e w4 ⟨rfl, hs4, row4, hI4, hl4, hh4, hI0, fk, fuu⟩
  have fu : Ft B w.heap.size _ _ := fuu w.heap.size (fun x hx => by simp only [bk, Value.ownBlock, Option.some.injEq] at hx; omega)
  have q := PS3.out
  have fa : Fr nob w3 (w3.alloc (.cells #[.slice none 0 0, .slice none 0 0, .slice (some ⟨R0, 0, none⟩) (rs.length + 8) (rs.length + 8), .slice none 0 0, .int .i64 0] 74)) := (Fr.refl _ w3).alloc _
  have l4 : Own w4 29 4 la L.length lc (flat L) := own_ks (own_fr LO3.out fa (fun _ _ h => h)) hI0 hh4 fk (by decide) (by decide) (by decide) (fun x hx hS => own_apart LO3.out q.rules (by decide) x hx (sls_r hS))
  have t4 : Own w4 33 1 ta rs.length tc (tstsV rs gs) := by
    have h9 := own_ks (own_fr q.list fa (fun _ _ h => h)) hI0 hh4 fk (by decide) (by decide) (by decide) (fun x hx hS => own_apart q.list q.rules (by decide) x hx (sls_r hS))
    rw [List.take_length] at h9
    exact h9
  have g4 : ∀ (j : Nat) (x : Rul) (g : Nat), rs[j]? = some x → gs[j]? = some g → Own w4 101 4 (some ⟨g, 0, none⟩) (x.ts.length + 8) (x.ts.length + 8) (tcs x.ts ++ tcs (List.replicate 8 zTst)) := fun j x g h1 h2 =>
    own_ks (own_fr (q.own j x g h1 h2) fa (fun _ _ h => h)) hI0 hh4 fk (by decide) (by decide) (by decide) (fun x hx hS => own_apart (q.own j _ g h1 h2) q.rules (by decide) x hx (sls_r hS))
  have k4 := blk_ks (fa.heap K3.out (fun h => h)) hI0 hh4 fk (by decide) (by decide) (by decide) (by decide) (by decide) (by decide) (by decide)
  have gnew : ∀ g ∈ gs, w.heap.size ≤ g ∧ g < w3.heap.size := fun g hg => ⟨by have := (q.new g hg).1; rw [World.size_alloc] at this; omega, (q.new g hg).2⟩
  have gR : ∀ g ∈ gs, g ≠ R0 := fun g hg e => by
    obtain ⟨j, hj⟩ := List.mem_iff_getElem?.1 hg
    have hj2 : j < rs.length := by have := (List.getElem?_eq_some_iff.1 hj).1; omega
    exact own_apart (q.own j rs[j] g (List.getElem?_eq_getElem hj2) hj) q.rules (by decide) g (by simp [bk, Value.ownBlock]) (by rw [e]; simp [bk, Value.ownBlock])
  obtain ⟨H1, hH1⟩ : ∃ H, H = w3.heap.size := ⟨_, rfl⟩
  have s4 := fu.size
  have INV4 : Hid (Inv w4 B wb ps hs4 (fun x => (F x ∨ H1 ≤ x ∨ x = R0 ∨ ∃ j, j < 0 ∧ gs[j]? = some x) ∧ x < w4.heap.size) anyQ row4) := hI4.mono (fun x hx h => ⟨by
    rcases h.1 with h | h | h
    · exact .inl h
    · exact .inr (.inl (by omega))
    · exact .inr (.inr (.inl (by simp only [bk, Value.ownBlock, Option.some.injEq] at h; exact h.symm))), h.2⟩) (fun _ _ _ _ _ h => h)
  have F4 : Hid (Ft B w.heap.size w w4) := (Ft.ofNob F3.out).trans fu (Nat.le_refl _)
  have L4 := hide l4
  have T4 := hide t4
  have G4 := hide g4
  have K4 := hide k4
  have GN : Hid (∀ g ∈ gs, w.heap.size ≤ g ∧ g < H1) := fun g hg => by rw [hH1]; exact gnew g hg
  have GR := hide gR
  have GI := hide q.inc
  have HL4 := hide hl4
  have LN3 : Hid (∀ x, bk (.slice la L.length lc) x → w.heap.size ≤ x ∧ x < H1) := fun x hx => ⟨by have := LN.out x hx; omega, by rw [hH1]; exact own_lt LO3.out hx⟩
  have LR : Hid (∀ x, bk (.slice la L.length lc) x → x ≠ R0) := fun x hx e => own_apart LO3.out q.rules (by decide) x hx (by rw [e]; simp [bk, Value.ownBlock])
  have LG : Hid (∀ x, bk (.slice la L.length lc) x → ∀ g ∈ gs, x ≠ g) := fun x hx g hg e => by
    obtain ⟨j, hj⟩ := List.mem_iff_getElem?.1 hg
    have hj2 : j < rs.length := by have := (List.getElem?_eq_some_iff.1 hj).1; omega
    exact own_apart LO3.out (q.own j rs[j] g (List.getElem?_eq_getElem hj2) hj) (by decide) x hx (by rw [e]; simp [bk, Value.ownBlock])
  have hH4 : H1 ≤ w4.heap.size := by omega
  have HW3 : Hid (w.heap.size ≤ H1) := (show w.heap.size ≤ H1 by omega)
  have HOH : Hid (O < H1) := (show O < H1 by have := HO.out; omega)
  clear hI4 hI0 hh4 fk fu fuu fa l4 t4 g4 k4 gnew gR q PS3 F3 K3 LO3 HK LN hl4 s4 hO s12 s3 hw3 hH1
  go_wp2_with fail
  go_loopw [11] (fun y wr => ∃ (i : Nat) (hs' : List Nat) (row' : Sl), i ≤ rs.length ∧ y = .int .i64 i ∧ Inv wr B wb ps hs' (fun x => (F x ∨ H1 ≤ x ∨ x = R0 ∨ ∃ j, j < i ∧ gs[j]? = some x) ∧ x < wr.heap.size) anyQ row' ∧ hs'.length = hs.length + 4 + 4 * i ∧
    Own wr 29 4 la L.length lc (flat L) ∧ Own wr 33 1 ta rs.length tc (tstsV rs gs) ∧ (∀ (j : Nat) (x : Rul) (g : Nat), i ≤ j → rs[j]? = some x → gs[j]? = some g → Own wr 101 4 (some ⟨g, 0, none⟩) (x.ts.length + 8) (x.ts.length + 8) (tcs x.ts ++ tcs (List.replicate 8 zTst))) ∧
    wr.heap[O]? = some (.cells #[.int .i64 5, .int .i64 N, .slice ao n cap, .string s, .int .u32 q0, .slice a1 rs.length c1, .int .u32 q2, .int .u32 q3, .slice a2 n2 c2] 41 (0, 0)) ∧ H1 ≤ wr.heap.size ∧ Ft B w.heap.size w wr) (fun y _ => rs.length - (intOf y).toNat)
  case atStart => exact ⟨0, hs4, row4, Nat.zero_le _, rfl, INV4.out, by have := HL4.out; omega, L4.out, T4.out, fun j x g _ => G4.out j x g, K4.out, hH4, F4.out⟩
  case round =>
    clear INV4 L4 T4 G4 K4 hH4 F4 HL4
    obtain ⟨i, hs', row', hi, rfl, hinv, hlh, lo, tl, go, ko, hH, fB⟩ := hrel
    by_cases hlt : i < rs.length
    · have hgi : i < gs.length := by omega
      obtain ⟨x, hx⟩ : ∃ x, x = rs[i] := ⟨_, rfl⟩
      obtain ⟨g, hg⟩ : ∃ g, g = gs[i] := ⟨_, rfl⟩
      have hxe : rs[i]? = some x := by rw [hx]; exact List.getElem?_eq_getElem hlt
      have hge : gs[i]? = some g := by rw [hg]; exact List.getElem?_eq_getElem hgi
      have hxm : x ∈ rs := List.mem_of_getElem? hxe
      have hgm : g ∈ gs := List.mem_of_getElem? hge
      have hm := (HFIT.out x hxm).1
      obtain ⟨gl, rfl⟩ := own_some tl hlt
      have l0 : wr.cell? ⟨gl, i, none⟩ = some (.slice (some ⟨g, 0, none⟩) (x.ts.length + 8) (x.ts.length + 8)) := own_get tl (by
        unfold tstsV
        rw [List.getElem?_zipWith, hxe, hge])
      have hlti : (i : Int) < (rs.length : Int) := by omega
      have og := go i x g (Nat.le_refl _) hxe hge
      have hBw := HW3.out
      have hgn := GN.out g hgm
      have hgk := keep_t wr B wb ps hs' _ row' hinv (fun x hx => hx.2) (by omega) (by omega) (some ⟨g, 0, none⟩) (x.ts.length + 8) (x.ts.length + 8) _ og (by omega) (fun y hy => by
        simp only [bk, Value.ownBlock, Option.some.injEq] at hy
        subst hy
        refine ⟨by omega, fun h => ?_⟩
        rcases h.1 with h1 | h1 | h1 | ⟨j, hj, h1⟩
        · have := HFL.out _ h1; omega
        · omega
        · exact GR.out g hgm h1
        · have hp : gs[j]'(by omega) < gs[i] := List.pairwise_iff_getElem.1 GI.out j i (by omega) hgi hj
          rw [List.getElem?_eq_getElem (show j < gs.length by omega), Option.some.injEq] at h1
          omega)
      have HGK := hide hgk
      have LO := hide lo
      have TL := hide tl
      have GO := hide go
      have KO := hide ko
      have FB := hide fB
      have HXE := hide hxe
      have HGE := hide hge
      have OG := hide og
      clear hgk lo tl go ko fB hxe hge og hx hg hxm hgm hinv
      go_wp2_with fail
      refine HGK.out.mono ?_
      rintro e w5 ⟨rfl, hs5, row5, hI5, hl5, hh5, hI0, fk, fuu⟩
      have fu : Ft B w.heap.size _ _ := fuu w.heap.size (fun x hx => by simp only [bk, Value.ownBlock, Option.some.injEq] at hx; omega)
      have fa : Fr nob wr (wr.alloc (.cells #[.slice none 0 0, .slice none 0 0, .slice none 0 0, .slice (some ⟨g, 0, none⟩) (x.ts.length + 8) (x.ts.length + 8), .int .i64 0] 74)) := (Fr.refl _ wr).alloc _
      have l5 : Own w5 29 4 la L.length lc (flat L) := own_ks (own_fr LO.out fa (fun _ _ h => h)) hI0 hh5 fk (by decide) (by decide) (by decide) (fun x hx hS => own_apart LO.out OG.out (by decide) x hx (sls_t hS))
      have t5 : Own w5 33 1 (some ⟨gl, 0, none⟩) rs.length tc (tstsV rs gs) := own_ks (own_fr TL.out fa (fun _ _ h => h)) hI0 hh5 fk (by decide) (by decide) (by decide) (fun x hx hS => own_apart TL.out OG.out (by decide) x hx (sls_t hS))
      have g5 : ∀ (j : Nat) (y : Rul) (gg : Nat), i + 1 ≤ j → rs[j]? = some y → gs[j]? = some gg → Own w5 101 4 (some ⟨gg, 0, none⟩) (y.ts.length + 8) (y.ts.length + 8) (tcs y.ts ++ tcs (List.replicate 8 zTst)) := fun j y gg hj h1 h2 =>
        own_ks (own_fr (GO.out j y gg (by omega) h1 h2) fa (fun _ _ h => h)) hI0 hh5 fk (by decide) (by decide) (by decide) (fun z hz hS => by
          have hS' := sls_t hS
          simp only [bk, Value.ownBlock, Option.some.injEq] at hz hS'
          have hjl := (List.getElem?_eq_some_iff.1 h2).1
          have hp : gs[i] < gs[j] := List.pairwise_iff_getElem.1 GI.out i j hgi hjl (by omega)
          have e1 := HGE.out
          rw [List.getElem?_eq_getElem hgi, Option.some.injEq] at e1
          rw [List.getElem?_eq_getElem hjl, Option.some.injEq] at h2
          omega)
      have k5 := blk_ks (fa.heap KO.out (fun h => h)) hI0 hh5 fk (by decide) (by decide) (by decide) (by decide) (by decide) (by decide) (by decide)
      have s5 := fu.size
      have INV5 : Hid (Inv w5 B wb ps hs5 (fun x => (F x ∨ H1 ≤ x ∨ x = R0 ∨ ∃ j, j < i + 1 ∧ gs[j]? = some x) ∧ x < w5.heap.size) anyQ row5) := hI5.mono (fun y hy h => ⟨by
        rcases h.1 with h | h | h
        · rcases h.1 with h | h | h | ⟨j, hj, h⟩
          · exact .inl h
          · exact .inr (.inl h)
          · exact .inr (.inr (.inl h))
          · exact .inr (.inr (.inr ⟨j, by omega, h⟩))
        · exact .inr (.inl (by omega))
        · exact .inr (.inr (.inr ⟨i, by omega, by simp only [bk, Value.ownBlock, Option.some.injEq] at h; rw [← h]; exact HGE.out⟩)), h.2⟩) (fun _ _ _ _ _ h => h)
      have F5 : Hid (Ft B w.heap.size w w5) := FB.out.trans fu (Nat.le_refl _)
      have L5 := hide l5
      have T5 := hide t5
      have G5 := hide g5
      have K5 := hide k5
      have HL5 : Hid (hs5.length = hs.length + 4 + 4 * (i + 1)) := (show hs5.length = hs.length + 4 + 4 * (i + 1) by omega)
      have H5 : Hid (H1 ≤ w5.heap.size) := (show H1 ≤ w5.heap.size by omega)
      clear hI5 hI0 hh5 fk fu fuu fa l5 t5 g5 k5 hl5 s5 HGK
      go_wp2
      refine ⟨⟨i + 1, hs5, row5, by omega, by go_num, INV5.out, HL5.out, L5.out, T5.out, G5.out, K5.out, H5.out, F5.out⟩, ?_⟩
      simp [intOf]; omega
    · obtain rfl : i = rs.length := by omega
      have hLl : L.length ≤ 4096 := by
        cases hmy : mayS rs with
        | true =>
          have := (HC.out.good q0 q2 q3 rs HFIT.out HQ.out.1 HQ.out.2.1 HQ.out.2.2 hmy).2.1.good.le
          rw [← HL.out] at this
          exact this
        | false =>
          have := HC.out.bad q0 q2 q3 rs HFIT.out hmy
          rw [HL.out, this]; exact Nat.zero_le _
      have hpw := HP.out.fr fB.up
      have hcall := HC.out.call wr q0 q2 q3 a1 c1 rs hpw.rv hrl HFIT.out HQ.out.1 HQ.out.2.1 HQ.out.2.2
      rw [← HL.out, ← HER.out] at hcall
      have HCALL := hide hcall
      have u3 : wr.cell? ⟨O, 3, none⟩ = some (.string s) := cell_blk ko rfl
      have u4 : wr.cell? ⟨O, 4, none⟩ = some (.int .u32 q0) := cell_blk ko rfl
      have u5 : wr.cell? ⟨O, 5, none⟩ = some (.slice a1 rs.length c1) := cell_blk ko rfl
      have u6 : wr.cell? ⟨O, 6, none⟩ = some (.int .u32 q2) := cell_blk ko rfl
      have u7 : wr.cell? ⟨O, 7, none⟩ = some (.int .u32 q3) := cell_blk ko rfl
      have HINV := hide hinv
      have LO := hide lo
      have KO := hide ko
      have FB := hide fB
      have HLH := hide hlh
      clear hcall hinv lo tl go ko fB hlt hi hpw hlh
      go_wp2_with fail
      refine HCALL.out.mono ?_
      rintro e w6 ⟨ba, bc, rfl, bo, bnew, f6⟩
      have l6 := own_fr LO.out f6 (fun _ _ h => h)
      have HSM := hide (same_any w6 la ba lc bc L (by omega) (own_view l6 (by rw [List.take_of_length_le (Nat.le_refl _)])) (own_view bo (by rw [List.take_of_length_le (Nat.le_refl _)])))
      have BO := hide bo
      have BN := hide bnew
      have F6 := hide f6
      clear bo bnew f6 l6 HCALL u3 u4 u5 u6 u7
      go_wp2_with fail
      refine HSM.out.mono ?_
      rintro e w7 ⟨rfl, f7'⟩
      have f7 : Fr nob wr w7 := F6.out.trans f7'
      have bo7 := own_fr BO.out f7' (fun _ _ h => h)
      have s7 := f7.size
      have hI7 := HINV.out.fr f7 (fun h => h) (fun _ _ h => h) (fun _ _ h => h)
      have hk7 := keep_i w7 B wb ps hs' _ row' hI7 (fun x hx => by have := hx.2; omega) (by have := HW3.out; omega) (by have := HLH.out; omega) ba L.length bc (flat L) bo7 (by omega) (fun y hy => by
        have h1 := BN.out y hy
        have h2 := HW3.out
        exact ⟨by omega, fun h => by have := h.2; omega⟩)
      have HK7 := hide hk7
      have F7 := hide f7
      have BO7 := hide bo7
      clear hk7 hI7 bo7 f7 f7' HSM F6 BO
      go_wp2_with fail
      refine HK7.out.mono ?_
      rintro e w8 ⟨rfl, hs8, row8, hI8, hl8, hh8, hI0, fk, fuu⟩
      have fu : Ft B w.heap.size _ _ := fuu w.heap.size (fun x hx => by have h1 := BN.out x hx; have h2 := HW3.out; omega)
      have fa : Fr nob w7 (w7.alloc (.cells #[.slice none 0 0, .slice ba L.length bc, .slice none 0 0, .slice none 0 0, .int .i64 0] 74)) := (Fr.refl _ w7).alloc _
      have l8 : Own w8 29 4 la L.length lc (flat L) := own_ks (own_fr (own_fr LO.out F7.out (fun _ _ h => h)) fa (fun _ _ h => h)) hI0 hh8 fk (by decide) (by decide) (by decide) (fun x hx hS => by
        have h1 := BN.out x (sls_i hS)
        have h2 := (LN3.out x hx).2
        omega)
      have k8 := blk_ks (fa.heap (F7.out.heap KO.out (fun h => h)) (fun h => h)) hI0 hh8 fk (by decide) (by decide) (by decide) (by decide) (by decide) (by decide) (by decide)
      have s8 := fu.size
      have F8 : Ft B w.heap.size w w8 := (FB.out.trans (Ft.ofNob (S0 := w.heap.size) F7.out) (Nat.le_refl _)).trans fu (Nat.le_refl _)
      have hI8' : Inv w8 B wb ps hs8 (fun x => (F x ∨ H1 ≤ x ∨ x = R0 ∨ x ∈ gs) ∧ x < w8.heap.size) anyQ row8 := hI8.mono (fun y hy h => ⟨by
        rcases h.1 with h | h | h
        · rcases h.1 with h | h | h | ⟨j, hj, h⟩
          · exact .inl h
          · exact .inr (.inl h)
          · exact .inr (.inr (.inl h))
          · exact .inr (.inr (.inr (List.mem_of_getElem? h)))
        · exact .inr (.inl (by omega))
        · exact .inr (.inl (by have := BN.out y h; omega)), h.2⟩) (fun _ _ _ _ _ h => h)
      have hpw := HP.out.fr F8.up
      have HMB := hide (maybe_any w8 q0 q2 q3 a1 c1 rs hpw.rv hrl (fun x hx => (HFIT.out x hx).1))
      have HPW := hide hpw
      have u3 : w8.cell? ⟨O, 3, none⟩ = some (.string s) := cell_blk k8 rfl
      have u4 : w8.cell? ⟨O, 4, none⟩ = some (.int .u32 q0) := cell_blk k8 rfl
      have u5 : w8.cell? ⟨O, 5, none⟩ = some (.slice a1 rs.length c1) := cell_blk k8 rfl
      have u6 : w8.cell? ⟨O, 6, none⟩ = some (.int .u32 q2) := cell_blk k8 rfl
      have u7 : w8.cell? ⟨O, 7, none⟩ = some (.int .u32 q3) := cell_blk k8 rfl
      have L8 := hide l8
      have K8 := hide k8
      have I8 := hide hI8'
      have FW8 := hide F8
      have HL8 : Hid (hs8.length = hs.length + 8 + 4 * rs.length) := (show hs8.length = hs.length + 8 + 4 * rs.length by have := HLH.out; omega)
      have H8 : Hid (B ≤ w8.heap.size ∧ H1 ≤ w8.heap.size) := (show B ≤ w8.heap.size ∧ H1 ≤ w8.heap.size by have := HW3.out; constructor <;> omega)
      clear hI8 hI8' hI0 hh8 fk fu fuu fa l8 k8 s8 F8 hl8 hpw HK7 F7 BO7 LO KO FB HLH HINV s7 BN
      have OUT : Hid (∀ x, (F x ∨ H1 ≤ x ∨ x = R0 ∨ x ∈ gs) → F x ∨ w.heap.size ≤ x) := fun x h => by
        have h3 := HW3.out
        rcases h with h | h | h | h
        · exact .inl h
        · exact .inr (by omega)
        · exact .inr (by omega)
        · exact .inr (GN.out x h).1
      cases hmy : mayS rs with
      | false =>
        have hb := HC.out.bad q0 q2 q3 rs HFIT.out hmy
        rw [hmy] at HMB
        have e1 : L = [] := by rw [HL.out, hb]
        have e2 : er = 11 := by rw [HER.out, hb]
        subst e1 e2
        clear hb hmy HL HER
        go_wp2_with fail
        refine HMB.out.mono ?_
        rintro e w9 ⟨rfl, f9⟩
        have F9 : Hid (Ft B w.heap.size w w9) := FW8.out.trans (Ft.ofNob (S0 := w.heap.size) f9) (Nat.le_refl _)
        have I9 := hide (I8.out.fr f9 (fun h => h) (fun _ _ h => h) (fun _ _ h => h))
        have s9 := f9.size
        have H9 : Hid (B ≤ w9.heap.size ∧ w8.heap.size ≤ w9.heap.size) := (show B ≤ w9.heap.size ∧ w8.heap.size ≤ w9.heap.size by have := H8.out.1; constructor <;> omega)
        clear f9 HMB u3 u4 u5 u6 u7 s9
        go_wp2
        go_ret
        exact ⟨rfl, hs8, ⟨⟨row8, I9.out.mono (fun x hx h => ⟨OUT.out x h.1, hx⟩) (fun _ _ _ _ _ h => h)⟩, fun x hx => hx.2, H9.out.1⟩, by have := HL8.out; omega, F9.out⟩
      | true =>
        obtain ⟨g1, g2, g3⟩ := HC.out.good q0 q2 q3 rs HFIT.out HQ.out.1 HQ.out.2.1 HQ.out.2.2 hmy
        rw [← HER.out] at g1
        rw [← HL.out] at g2 g3
        rw [hmy] at HMB
        subst g1
        have HFN := hide g2
        have HAS := hide g3
        have HMY := hide hmy
        clear g2 g3 hmy HER
        go_wp2_with fail
        refine HMB.out.mono ?_
        rintro e w9 ⟨rfl, f9⟩
        have l9 := own_fr L8.out f9 (fun _ _ h => h)
        have hck := rCheck_any w9 la lc L (own_view l9 (by rw [List.take_of_length_le (Nat.le_refl _)])) HFN.out.good.ok
        rw [HFN.out.chk] at hck
        have HCK := hide hck
        have k9 := f9.heap K8.out (fun h => h)
        have F9 := hide f9
        clear f9 l9 hck HMB u3 u4 u5 u6 u7
        go_wp2_with fail
        refine HCK.out.mono ?_
        rintro e w10 ⟨rfl, f10'⟩
        have f10 : Fr nob w8 w10 := F9.out.trans f10'
        have k10 := f10'.heap k9 (fun h => h)
        have u3 : w10.cell? ⟨O, 3, none⟩ = some (.string s) := cell_blk k10 rfl
        have u4 : w10.cell? ⟨O, 4, none⟩ = some (.int .u32 q0) := cell_blk k10 rfl
        have u5 : w10.cell? ⟨O, 5, none⟩ = some (.slice a1 rs.length c1) := cell_blk k10 rfl
        have u6 : w10.cell? ⟨O, 6, none⟩ = some (.int .u32 q2) := cell_blk k10 rfl
        have u7 : w10.cell? ⟨O, 7, none⟩ = some (.int .u32 q3) := cell_blk k10 rfl
        have F10 := hide f10
        have K10 := hide k10
        clear f10 f10' k9 k10 HCK F9
        have FIN : Hid (∀ wX, Fr nob w8 wX → Calls Tryz.prog 23 #[.pointer (some ⟨wb, 0, none⟩), .pointer (some ⟨wX.heap.size, 0, none⟩)] (wX.alloc (.cells #[.slice none 0 0, .slice la L.length lc, .slice none 0 0, .slice none 0 0, .int .i64 0] 74)) fun e w' => e = .returned (.tuple #[]) ∧
            ∃ hs', At w' B wb ps hs' (grow F w w') ∧ hs'.length ≤ hs.length + 12 + 4 * rs.length ∧ Ft B w.heap.size w w') := fun wX fX => by
          have sX := fX.size
          have hIX := I8.out.fr fX (fun h => h) (fun _ _ h => h) (fun _ _ h => h)
          have hB8 := H8.out
          refine (keep_i wX B wb ps hs8 _ row8 hIX (fun x hx => by have := hx.2; omega) (by omega) (by have := HL8.out; omega) la L.length lc (flat L) (own_fr L8.out fX (fun _ _ h => h)) (by omega) (fun y hy => ?_)).mono ?_
          · have h1 := LN3.out y hy
            refine ⟨by omega, fun h => ?_⟩
            rcases h.1 with h | h | h | h
            · have := HFL.out _ h; omega
            · omega
            · exact LR.out y hy h
            · exact LG.out y hy y h rfl
          · rintro e w' ⟨rfl, hs', row', hI', hl', _, _, _, fuu⟩
            have fu : Ft B w.heap.size _ _ := fuu w.heap.size (fun x hx => (LN3.out x hx).1)
            have su := fu.size
            exact ⟨rfl, hs', ⟨⟨row', hI'.mono (fun x hx h => ⟨h.1.elim (fun h => OUT.out x h.1) (fun h => .inr (h.elim (fun h => by have := HW3.out; omega) (fun h => (LN3.out x h).1))), hx⟩) (fun _ _ _ _ _ h => h)⟩, fun x hx => hx.2, by omega⟩, by have := HL8.out; omega, (FW8.out.trans (Ft.ofNob (S0 := w.heap.size) fX) (Nat.le_refl _)).trans fu (Nat.le_refl _)⟩
        by_cases h64 : s.size = 64
        · have hi64 : (s.size : Int) = 64 := by omega
          have l10 := own_fr L8.out F10.out (fun _ _ h => h)
          have HPL := hide (play_any w10 la lc L (own_view l10 (by rw [List.take_of_length_le (Nat.le_refl _)])) HFN.out.good s h64)
          have HVE := hide (HAS.out s h64)
          have hmay : ∀ x ∈ rs, ∀ t ∈ x.ts, t.may := fun x hx t ht => by
            have h1 := HMY.out
            unfold mayS at h1
            simp only [Bool.and_eq_true, decide_eq_true_eq, List.all_eq_true] at h1
            have h2 := h1.2 x hx
            unfold Rul.mayB at h2
            simp only [Bool.and_eq_true, decide_eq_true_eq, List.all_eq_true] at h2
            exact (Tst.mayB_iff t).1 (h2.2 t ht)
          have HMAY := hide hmay
          have H64 := hide h64
          clear l10 hmay h64
          go_wp2_with fail
          refine HPL.out.mono ?_
          rintro e w11 ⟨rfl, f11⟩
          have k11 := f11.heap K10.out (fun h => h)
          have F11 := hide (F10.out.trans f11)
          have hask := asked_any w11 q0 q2 q3 a1 c1 rs (HPW.out.rv.fr0 F11.out) hrl (fun x hx => (HFIT.out x hx).1) HMAY.out s H64.out
          rw [← HVE.out] at hask
          have HASK := hide hask
          have v3 : w11.cell? ⟨O, 3, none⟩ = some (.string s) := cell_blk k11 rfl
          have v4 : w11.cell? ⟨O, 4, none⟩ = some (.int .u32 q0) := cell_blk k11 rfl
          have v5 : w11.cell? ⟨O, 5, none⟩ = some (.slice a1 rs.length c1) := cell_blk k11 rfl
          have v6 : w11.cell? ⟨O, 6, none⟩ = some (.int .u32 q2) := cell_blk k11 rfl
          have v7 : w11.cell? ⟨O, 7, none⟩ = some (.int .u32 q3) := cell_blk k11 rfl
          clear f11 k11 hask u3 u4 u5 u6 u7 HPL
          go_wp2_with fail
          refine HASK.out.mono ?_
          rintro e w12 ⟨rfl, f12⟩
          have F12 := hide (F11.out.trans f12)
          have HFI := hide (FIN.out w12 F12.out)
          clear f12 HASK v3 v4 v5 v6 v7
          go_wp2_with fail
          refine HFI.out.mono ?_
          rintro e w13 ⟨rfl, hs', hA', hl', fF⟩
          have RES : Hid (∃ hs', At w13 B wb ps hs' (grow F w w13) ∧ hs'.length ≤ hs.length + 12 + 4 * rs.length ∧ Ft B w.heap.size w w13) := ⟨hs', hA', hl', fF⟩
          clear hA' hl' fF
          go_wp2
          go_ret
          exact ⟨rfl, RES.out⟩
        · have h64i : ((s.size : Int) == 64) = false := by rw [beq_eq_false_iff_ne]; omega
          have HFI := hide (FIN.out w10 F10.out)
          clear h64
          go_wp2_with fail
          refine HFI.out.mono ?_
          rintro e w13 ⟨rfl, hs', hA', hl', fF⟩
          have RES : Hid (∃ hs', At w13 B wb ps hs' (grow F w w13) ∧ hs'.length ≤ hs.length + 12 + 4 * rs.length ∧ Ft B w.heap.size w w13) := ⟨hs', hA', hl', fF⟩
          clear hA' hl' fF u3 u4 u5 u6 u7
          go_wp2
          go_ret
          exact ⟨rfl, RES.out⟩
#print axioms compiled_any
end Go.Proofs.YtjgcfffepkmojabGreat
