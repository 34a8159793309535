import Derived.Test.YtjgcfffepkmojaaGreatPolV
namespace Go.Proofs.YtjgcfffepkmojaaGreat
open Go.RowKit
set_option linter.unusedVariables false

/-- A step of a script, as the model's numbers. -/
structure OpR where
  kind : Int
  N : Int
  ao : Option Addr
  cap : Nat
  l : List Ins
  s : ByteArray
  q0 : Int
  a1 : Option Addr
  n1 : Nat
  c1 : Nat
  q2 : Int
  q3 : Int
  a2 : Option Addr
  n2 : Nat
  c2 : Nat
def OpR.cs (o : OpR) : List Value := [.int .i64 o.kind, .int .i64 o.N, .slice o.ao o.l.length o.cap, .string o.s, .int .u32 o.q0, .slice o.a1 o.n1 o.c1, .int .u32 o.q2, .int .u32 o.q3, .slice o.a2 o.n2 o.c2]
abbrev OpR.v (o : OpR) : Value := opV o.kind o.N o.ao o.l.length o.cap o.s o.q0 o.a1 o.n1 o.c1 o.q2 o.q3 o.a2 o.n2 o.c2
/-- What is asked of a step's arguments: they read as data, lie below B, are no longer than that. -/
structure OpR.ok (w : World) (B : Nat) (o : OpR) : Prop where
  v : View w o.ao (flat o.l)
  vB : o.l ≠ [] → ∀ b off, o.ao = some ⟨b, off, none⟩ → b < B
  z : o.ao = none → o.l.length = 0
  l : o.l.length ≤ 10000000
  i : ∀ x ∈ o.l, x.ok
  s : o.s.size ≤ 10000000
  n : I64 o.N
  q : U32 o.q0 ∧ U32 o.q2 ∧ U32 o.q3
  pol : ∃ rs : List Rul, o.n1 = rs.length ∧ PolV w B o.a1 rs
  str : ∃ ss : List ByteArray, o.n2 = ss.length ∧ StrV w B o.a2 ss
theorem OpR.ok.fr {w w' : World} {B : Nat} {o : OpR} (h : o.ok w B) (f : Fr (up B) w w') : o.ok w' B :=
  ⟨view_frB h.v f (fun hne b off e => by have := h.vB (flat_ne hne) b off e; simp only [up]; omega), h.vB, h.z, h.l, h.i, h.s, h.n, h.q, h.pol.imp (fun _ hr => ⟨hr.1, hr.2.fr f⟩), h.str.imp (fun _ hr => ⟨hr.1, hr.2.fr f⟩)⟩
theorem OpR.ok.up {w w' : World} {B B' : Nat} {o : OpR} (h : o.ok w B) (f : Fr nob w w') (hB : B ≤ B') : o.ok w' B' :=
  ⟨h.v.fr0 f, fun hne b off e => Nat.lt_of_lt_of_le (h.vB hne b off e) hB, h.z, h.l, h.i, h.s, h.n, h.q, h.pol.imp (fun _ hr => ⟨hr.1, hr.2.up f hB⟩), h.str.imp (fun _ hr => ⟨hr.1, hr.2.up f hB⟩)⟩
/-- What Decode, Encode, Check and Run ask of a step's arguments: of whatever length they came in. -/
structure OpR.okP (w : World) (B : Nat) (o : OpR) : Prop where
  v : View w o.ao (flat o.l)
  vB : o.l ≠ [] → ∀ b off, o.ao = some ⟨b, off, none⟩ → b < B
  z : o.ao = none → o.l.length = 0
  l : o.l.length ≤ 17592186043904
  i : ∀ x ∈ o.l, x.ok
  s : o.s.size ≤ 140737488351232
theorem OpR.ok.P {w : World} {B : Nat} {o : OpR} (h : o.ok w B) : o.okP w B := ⟨h.v, h.vB, h.z, by have := h.l; omega, h.i, by have := h.s; omega⟩
theorem OpR.okP.fr {w w' : World} {B : Nat} {o : OpR} (h : o.okP w B) (f : Fr (Go.Proofs.YtjgcfffepkmojaaGreat.up B) w w') : o.okP w' B :=
  ⟨view_frB h.v f (fun hne b off e => by have := h.vB (flat_ne hne) b off e; simp only [Go.Proofs.YtjgcfffepkmojaaGreat.up]; omega), h.vB, h.z, h.l, h.i, h.s⟩
theorem OpR.okP.up {w w' : World} {B B' : Nat} {o : OpR} (h : o.okP w B) (f : Fr nob w w') (hB : B ≤ B') : o.okP w' B' :=
  ⟨h.v.fr0 f, fun hne b off e => Nat.lt_of_lt_of_le (h.vB hne b off e) hB, h.z, h.l, h.i, h.s⟩
def ocs : List OpR → List Value
  | [] => []
  | o :: l => o.cs ++ ocs l
theorem ocs_len (l : List OpR) : (ocs l).length = l.length * 9 := by
  induction l with
  | nil => rfl
  | cons x l ih => simp [ocs, OpR.cs, ih]; omega
theorem ocs_get (l : List OpR) (k j : Nat) (hk : k < l.length) (hj : j < 9) : (ocs l)[k * 9 + j]? = (l[k]).cs[j]? := by
  induction l generalizing k with
  | nil => simp at hk
  | cons x l ih =>
    cases k with
    | zero => simp only [ocs]; rw [List.getElem?_append_left (by simp [OpR.cs]; omega)]; simp
    | succ k =>
      simp only [ocs]
      rw [List.getElem?_append_right (by simp [OpR.cs]; omega)]
      have := ih k (by simpa using hk)
      rw [show (k + 1) * 9 + j - x.cs.length = k * 9 + j by simp [OpR.cs]; omega]
      simpa using this

/-- Decode and Encode, as a step's inner part. -/
theorem plain_wire (w : World) (B wb : Nat) (ps : Value) (hs : List Nat) (F : Nat → Prop) (hA : At w B wb ps hs F) (hlen : hs.length ≤ 9900000000000) (o : OpR) (ho : o.okP w B) (hk : o.kind = 1 ∨ o.kind = 2) :
    Calls Tryz.prog 13 #[.pointer (some ⟨wb, 0, none⟩), o.v] w fun e w' => e = .returned (.bool true) ∧ ∃ hs', At w' B wb ps hs' (grow F w w') ∧ hs'.length ≤ hs.length + 8 ∧ Ft B w.heap.size w w' := by
  rcases hk with hk | hk
  · by_cases hb : o.s.size % 8 ≠ 0 ∨ o.s.size = 0 ∨ 32768 < o.s.size
    · refine (show Calls Tryz.prog 13 #[.pointer (some ⟨wb, 0, none⟩), o.v] w _ from by
        rw [OpR.v, hk]; exact plain_decode_bad w B wb ps hs F hA hlen o.N o.q0 o.q2 o.q3 o.a1 o.a2 o.n1 o.c1 o.n2 o.c2 o.ao o.cap o.l ho.v ho.z ho.l o.s ho.s hb).mono ?_
      rintro e w' ⟨he, hs', h1, h2, h3⟩
      exact ⟨he, hs', h1, by omega, h3⟩
    · refine (show Calls Tryz.prog 13 #[.pointer (some ⟨wb, 0, none⟩), o.v] w _ from by
        rw [OpR.v, hk]; exact plain_decode_ok w B wb ps hs F hA hlen o.N o.q0 o.q2 o.q3 o.a1 o.a2 o.n1 o.c1 o.n2 o.c2 o.ao o.cap o.l ho.v ho.z ho.l o.s (o.s.size / 8) (by omega) (by omega) (by omega)).mono ?_
      rintro e w' ⟨he, hs', h1, h2, h3⟩
      exact ⟨he, hs', h1, by omega, h3⟩
  · refine (show Calls Tryz.prog 13 #[.pointer (some ⟨wb, 0, none⟩), o.v] w _ from by
        rw [OpR.v, hk]; exact plain_encode w B wb ps hs F hA hlen o.N o.q0 o.q2 o.q3 o.a1 o.a2 o.n1 o.c1 o.n2 o.c2 o.ao o.cap o.l ho.v ho.vB ho.z ho.l ho.i o.s).mono ?_
    rintro e w' ⟨he, hs', h1, h2, h3⟩
    exact ⟨he, hs', h1, by omega, h3⟩

/-- 'step', where it comes to 'plain'. -/
theorem step_plain (w : World) (B wb : Nat) (ps : Value) (hs : List Nat) (F : Nat → Prop) (hA : At w B wb ps hs F) (o : OpR) (ho : o.okP w B) (hk : o.kind = 1 ∨ o.kind = 2 ∨ o.kind = 3 ∨ o.kind = 4)
    (hp : ∀ w1, At w1 B wb ps hs F → o.okP w1 B → Calls Tryz.prog 13 #[.pointer (some ⟨wb, 0, none⟩), o.v] w1 fun e w' => e = .returned (.bool true) ∧ ∃ hs', At w' B wb ps hs' (grow F w1 w') ∧ hs'.length ≤ hs.length + 8 ∧ Ft B w1.heap.size w1 w') :
    Calls Tryz.prog 11 #[.pointer (some ⟨wb, 0, none⟩), o.v] w fun e w' => e = .returned (.bool true) ∧ ∃ hs', At w' B wb ps hs' (grow F w w') ∧ hs'.length ≤ hs.length + 8 ∧ Ft B w.heap.size w w' := by
  have HP := hide hp
  clear hp
  obtain ⟨kind, hkd⟩ : ∃ k, k = o.kind := ⟨_, rfl⟩
  have f0 : Fr nob w (w.alloc (.cells #[.int .i64 o.kind, .int .i64 o.N, .slice o.ao o.l.length o.cap, .string o.s, .int .u32 o.q0, .slice o.a1 o.n1 o.c1, .int .u32 o.q2, .int .u32 o.q3, .slice o.a2 o.n2 o.c2] 41)) := (Fr.refl _ w).alloc _
  have hc := HP.out _ (hA.fr f0) (ho.fr (f0.mono (fun _ _ h => h.elim)))
  have HC := hide hc
  have HF := hide f0
  clear hc f0 HP hkd
  rcases hk with hk | hk | hk | hk
  · have e1 : (o.kind == 1) = true := by simp [hk]
    clear hk
    go_enter Tryz.func11, Tryz.ntmps11
    go_wp2_with fail
    refine HC.out.mono ?_
    rintro e w1 ⟨rfl, hs', h1, h2, h3⟩
    have FF : Ft B w.heap.size w w1 := (Ft.ofNob HF.out).trans h3 (by rw [World.size_alloc]; omega)
    have HH := hide (h1.wide (w := w) (by rw [World.size_alloc]; omega))
    clear h3 h1
    go_wp2
    go_ret
    exact ⟨rfl, hs', HH.out, h2, FF⟩
  · have e1 : (o.kind == 1) = false := by simp [hk]
    have e2 : (o.kind == 2) = true := by simp [hk]
    clear hk
    go_enter Tryz.func11, Tryz.ntmps11
    go_wp2_with fail
    refine HC.out.mono ?_
    rintro e w1 ⟨rfl, hs', h1, h2, h3⟩
    have FF : Ft B w.heap.size w w1 := (Ft.ofNob HF.out).trans h3 (by rw [World.size_alloc]; omega)
    have HH := hide (h1.wide (w := w) (by rw [World.size_alloc]; omega))
    clear h3 h1
    go_wp2
    go_ret
    exact ⟨rfl, hs', HH.out, h2, FF⟩
  · have e1 : (o.kind == 1) = false := by simp [hk]
    have e2 : (o.kind == 2) = false := by simp [hk]
    have e3 : (o.kind == 3) = true := by simp [hk]
    clear hk
    go_enter Tryz.func11, Tryz.ntmps11
    go_wp2_with fail
    refine HC.out.mono ?_
    rintro e w1 ⟨rfl, hs', h1, h2, h3⟩
    have FF : Ft B w.heap.size w w1 := (Ft.ofNob HF.out).trans h3 (by rw [World.size_alloc]; omega)
    have HH := hide (h1.wide (w := w) (by rw [World.size_alloc]; omega))
    clear h3 h1
    go_wp2
    go_ret
    exact ⟨rfl, hs', HH.out, h2, FF⟩
  · have e1 : (o.kind == 1) = false := by simp [hk]
    have e2 : (o.kind == 2) = false := by simp [hk]
    have e3 : (o.kind == 3) = false := by simp [hk]
    have e4 : (o.kind == 4) = true := by simp [hk]
    clear hk
    go_enter Tryz.func11, Tryz.ntmps11
    go_wp2_with fail
    refine HC.out.mono ?_
    rintro e w1 ⟨rfl, hs', h1, h2, h3⟩
    have FF : Ft B w.heap.size w w1 := (Ft.ofNob HF.out).trans h3 (by rw [World.size_alloc]; omega)
    have HH := hide (h1.wide (w := w) (by rw [World.size_alloc]; omega))
    clear h3 h1
    go_wp2
    go_ret
    exact ⟨rfl, hs', HH.out, h2, FF⟩

/-- The world of 'UpTo', as it is made. -/
theorem At.made (w : World) : AtA (w.alloc (.cells #[.slice none 0 0, .slice none 0 0] 46)) w.heap.size w.heap.size (.slice none 0 0) [] :=
  ⟨⟨nilS, heap_alloc_new w _, World.ownsRow_nil _ _ _ _, rfl, rfl, fun k hk => (by cases hk), Nat.le_refl _, fun x hx => by simp [bk, nilS, Value.ownBlock] at hx⟩, fun _ h => h, by simp⟩

set_option maxRecDepth 100000 in
set_option maxHeartbeats 2000000 in
/-- 'UpTo', where each step of the kinds that are played is as it must be, and no player is made. -/
theorem upto_any (w : World) (so : Option Addr) (cap : Nat) (ops : List OpR) (least last : Int) (hv : View w so (ocs ops)) (hl : ops.length ≤ 1172812402926)
    (hok : ∀ o ∈ ops, o.okP w w.heap.size)
    (hstep : ∀ o ∈ ops, least ≤ o.kind → o.kind ≤ last → ∀ w1 hs, AtA w1 w.heap.size w.heap.size (.slice none 0 0) hs → hs.length ≤ 9900000000000 → o.okP w1 w.heap.size →
      Calls Tryz.prog 11 #[.pointer (some ⟨w.heap.size, 0, none⟩), o.v] w1 fun e w' => e = .returned (.bool true) ∧ ∃ hs', AtA w' w.heap.size w.heap.size (.slice none 0 0) hs' ∧ hs'.length ≤ hs.length + 8 ∧ Fr (up w.heap.size) w1 w') :
    Calls Tryz.prog 9 #[.slice so ops.length cap, .int .i64 least, .int .i64 last] w fun e w' => e = .returned (.int .i64 (-1)) ∧ Fr nob w w' := by
  have HS := hide hstep
  have HOK := hide hok
  clear hstep hok
  have hA0 := At.made w
  have f0 : Fr nob w (w.alloc (.cells #[.slice none 0 0, .slice none 0 0] 46)) := (Fr.refl _ w).alloc _
  go_enter Tryz.func9, Tryz.ntmps9
  go_wp2_with fail
  go_loopw [8] (fun i wr => ∃ (k : Nat) (hs : List Nat), k ≤ ops.length ∧ i = .int .i64 k ∧ AtA wr w.heap.size w.heap.size (.slice none 0 0) hs ∧ hs.length ≤ 8 * k ∧ Fr nob w wr) (fun i _ => ops.length - (intOf i).toNat)
  case atStart => exact ⟨0, [], Nat.zero_le _, rfl, hA0, by simp, f0⟩
  case round =>
    clear hA0 f0
    obtain ⟨k, hs, hk, rfl, hA, hlen, f⟩ := hrel
    by_cases hlt : k < ops.length
    · have hne : ocs ops ≠ [] := by intro e; have := ocs_len ops; rw [e] at this; simp at this; omega
      obtain ⟨b, off, hso, hseg⟩ := (hv.fr0 f).some hne
      have hcell : ∀ j v, j < 9 → (ops[k]).cs[j]? = some v → wr.cell? ⟨b, off + k * 9 + j, none⟩ = some v := fun j v hj hv => by
        rw [Nat.add_assoc]; exact hseg (k * 9 + j) v ((ocs_get ops k j hlt hj).trans hv)
      obtain ⟨o, hoe⟩ : ∃ o, o = ops[k] := ⟨_, rfl⟩
      have hmem : o ∈ ops := by rw [hoe]; exact List.getElem_mem hlt
      rw [← hoe] at hcell
      have HO := hide hoe
      subst hso
      have g0 : wr.cell? ⟨b, off + k * 9, none⟩ = some (.int .i64 o.kind) := hcell 0 _ (by decide) rfl
      have g1 : wr.cell? ⟨b, off + k * 9 + 1, none⟩ = some (.int .i64 o.N) := hcell 1 _ (by decide) rfl
      have g2 : wr.cell? ⟨b, off + k * 9 + 2, none⟩ = some (.slice o.ao o.l.length o.cap) := hcell 2 _ (by decide) rfl
      have g3 : wr.cell? ⟨b, off + k * 9 + 3, none⟩ = some (.string o.s) := hcell 3 _ (by decide) rfl
      have g4 : wr.cell? ⟨b, off + k * 9 + 4, none⟩ = some (.int .u32 o.q0) := hcell 4 _ (by decide) rfl
      have g5 : wr.cell? ⟨b, off + k * 9 + 5, none⟩ = some (.slice o.a1 o.n1 o.c1) := hcell 5 _ (by decide) rfl
      have g6 : wr.cell? ⟨b, off + k * 9 + 6, none⟩ = some (.int .u32 o.q2) := hcell 6 _ (by decide) rfl
      have g7 : wr.cell? ⟨b, off + k * 9 + 7, none⟩ = some (.int .u32 o.q3) := hcell 7 _ (by decide) rfl
      have g8 : wr.cell? ⟨b, off + k * 9 + 8, none⟩ = some (.slice o.a2 o.n2 o.c2) := hcell 8 _ (by decide) rfl
      clear hoe hcell hseg
      by_cases hin : least ≤ o.kind ∧ o.kind ≤ last
      · have i1 : ¬ o.kind < least := by omega
        have i2 : ¬ last < o.kind := by omega
        have hc := HS.out o hmem hin.1 hin.2 wr hs hA (by omega) ((HOK.out o hmem).fr (f.mono (fun _ _ h => h.elim)))
        have HC := hide hc
        clear hin hc
        go_wp2_with fail
        refine HC.out.mono ?_
        rintro e w1 ⟨rfl, hs1, hA1, hl1, f1⟩
        have F1 : Fr nob w w1 := f.step f1 (fun x hx h => by simp only [up] at h; omega)
        clear f1 HC
        obtain ⟨row1, hI1⟩ := hA1.inv
        go_wp2_with fail
        refine (looks_any _ w.heap.size w.heap.size _ hs1 _ row1 hI1 (by omega)).mono ?_
        rintro e w2 ⟨rfl, f2⟩
        have hA2 := AtA.fr hA1 f2
        have F2 : Fr nob w w2 := F1.trans f2
        clear f2 hA1 hI1 F1
        go_wp2
        go_roundw
        case rel => exact ⟨k + 1, hs1, by omega, by go_num, hA2, by omega, F2⟩
        case measure => simp [intOf]; omega
      · clear g1 g2 g3 g4 g5 g6 g7 g8
        by_cases i1 : o.kind < least
        · clear hin
          go_wp2
          go_roundw
          case rel => exact ⟨k + 1, hs, by omega, by go_num, hA, by omega, f⟩
          case measure => simp [intOf]; omega
        · have i2 : last < o.kind := by omega
          clear hin
          go_wp2
          go_roundw
          case rel => exact ⟨k + 1, hs, by omega, by go_num, hA, by omega, f⟩
          case measure => simp [intOf]; omega
    · go_wp2
      go_ret
      exact ⟨rfl, f⟩
#print axioms upto_any
end Go.Proofs.YtjgcfffepkmojaaGreat
