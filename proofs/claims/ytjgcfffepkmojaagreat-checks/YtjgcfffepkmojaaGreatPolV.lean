import Derived.Test.YtjgcfffepkmojaaGreatPlainE
namespace Go.Proofs.YtjgcfffepkmojaaGreat
open Go.RowKit
set_option linter.unusedVariables false

/-- A number of 32 bits. -/
def U32 (x : Int) : Prop := 0 ≤ x ∧ x < 4294967296
def U64 (x : Int) : Prop := 0 ≤ x ∧ x < 18446744073709551616
def I64 (x : Int) : Prop := -9223372036854775808 ≤ x ∧ x < 9223372036854775808

/-! ### Policies -/
/-- Things of n cells each, one behind the other. -/
def cat {α : Type} (f : α → List Value) : List α → List Value
  | [] => []
  | x :: l => f x ++ cat f l
theorem cat_len {α : Type} {f : α → List Value} {n : Nat} (hf : ∀ x, (f x).length = n) (l : List α) : (cat f l).length = l.length * n := by
  induction l with
  | nil => simp [cat]
  | cons x l ih => simp [cat, ih, hf, Nat.succ_mul]; omega
theorem cat_get {α : Type} {f : α → List Value} {n : Nat} (hf : ∀ x, (f x).length = n) (l : List α) (k j : Nat) (hk : k < l.length) (hj : j < n) : (cat f l)[k * n + j]? = (f l[k])[j]? := by
  induction l generalizing k with
  | nil => simp at hk
  | cons x l ih =>
    cases k with
    | zero => simp only [cat]; rw [List.getElem?_append_left (by rw [hf]; omega)]; simp
    | succ k =>
      simp only [cat]
      have e : (k + 1) * n + j - (f x).length = k * n + j := by rw [hf, Nat.succ_mul]; omega
      rw [List.getElem?_append_right (by rw [hf, Nat.succ_mul]; omega), e]
      have := ih k (by simpa using hk)
      simpa using this
structure Tst where
  arg : Int
  how : Int
  value : Int
  mask : Int
def Tst.cs (t : Tst) : List Value := [.int .i64 t.arg, .int .i64 t.how, .int .u64 t.value, .int .u64 t.mask]
structure Rul where
  number : Int
  ta : Option Addr
  cap : Nat
  ts : List Tst
  verdict : Int
def Rul.cs (x : Rul) : List Value := [.int .u32 x.number, .slice x.ta x.ts.length x.cap, .int .u32 x.verdict]
abbrev tcs : List Tst → List Value := cat Tst.cs
abbrev rcs : List Rul → List Value := cat Rul.cs
/-- The rules read so, and the tests in them. -/
structure RV (w : World) (ao : Option Addr) (rs : List Rul) : Prop where
  v : View w ao (rcs rs)
  t : ∀ x ∈ rs, View w x.ta (tcs x.ts)
theorem RV.fr0 {w w' : World} {ao : Option Addr} {rs : List Rul} (h : RV w ao rs) (f : Fr nob w w') : RV w' ao rs := ⟨h.v.fr0 f, fun x hx => (h.t x hx).fr0 f⟩
theorem view_at {α : Type} {f : α → List Value} {n : Nat} (hf : ∀ x, (f x).length = n) (hn : 0 < n) {w : World} {ao : Option Addr} {l : List α} (h : View w ao (cat f l)) {k : Nat} (hk : k < l.length) :
    ∃ b off, ao = some ⟨b, off, none⟩ ∧ ∀ j v, j < n → (f l[k])[j]? = some v → w.cell? ⟨b, off + k * n + j, none⟩ = some v := by
  have hne : cat f l ≠ [] := by
    intro e
    have := cat_len hf l
    rw [e] at this
    have h2 : 0 < l.length * n := Nat.mul_pos (by omega) hn
    simp at this
    omega
  obtain ⟨b, off, hao, hseg⟩ := h.some hne
  exact ⟨b, off, hao, fun j v hj hv => by rw [Nat.add_assoc]; exact hseg (k * n + j) v ((cat_get hf l k j hk hj).trans hv)⟩

def Tst.rng (t : Tst) : Prop := I64 t.arg ∧ I64 t.how ∧ U64 t.value ∧ U64 t.mask
/-- The block that a list lies in is one of the first B. -/
def low' (B : Nat) (ao : Option Addr) (n : Nat) : Prop := (0 < n → ∀ c off, ao = some ⟨c, off, none⟩ → c < B) ∧ (ao = none → n = 0) ∧ n ≤ 10000000
theorem low'.up {B B' : Nat} {ao : Option Addr} {n : Nat} (h : low' B ao n) (hB : B ≤ B') : low' B' ao n := ⟨fun hn c off e => Nat.lt_of_lt_of_le (h.1 hn c off e) hB, h.2⟩
/-- A policy's rules, and all that is in them. -/
structure PolV (w : World) (B : Nat) (ao : Option Addr) (rs : List Rul) : Prop where
  rv : RV w ao rs
  b : low' B ao rs.length
  t : ∀ x ∈ rs, low' B x.ta x.ts.length ∧ U32 x.number ∧ U32 x.verdict ∧ ∀ t ∈ x.ts, t.rng
/-- A list of texts. -/
def scs' : List ByteArray → List Value := cat (fun s => [.string s])
structure StrV (w : World) (B : Nat) (ao : Option Addr) (ss : List ByteArray) : Prop where
  v : View w ao (scs' ss)
  b : low' B ao ss.length
  s : ∀ x ∈ ss, x.size ≤ 10000000
theorem cat_nil {α : Type} {f : α → List Value} {l : List α} (h : cat f l ≠ []) : 0 < l.length := by
  cases l with
  | nil => exact absurd rfl h
  | cons x l => simp
theorem cat_fr {α : Type} {f : α → List Value} {w w' : World} {B : Nat} {ao : Option Addr} {l : List α} (h : View w ao (cat f l)) (hb : low' B ao l.length) (f' : Fr (up B) w w') : View w' ao (cat f l) :=
  view_frB h f' (fun hne b off e => by have := hb.1 (cat_nil hne) b off e; simp only [up]; omega)
theorem PolV.fr {w w' : World} {B : Nat} {ao : Option Addr} {rs : List Rul} (h : PolV w B ao rs) (f : Fr (up B) w w') : PolV w' B ao rs :=
  ⟨⟨cat_fr h.rv.v h.b f, fun x hx => cat_fr (h.rv.t x hx) (h.t x hx).1 f⟩, h.b, h.t⟩
theorem PolV.up {w w' : World} {B B' : Nat} {ao : Option Addr} {rs : List Rul} (h : PolV w B ao rs) (f : Fr nob w w') (hB : B ≤ B') : PolV w' B' ao rs :=
  ⟨h.rv.fr0 f, h.b.up hB, fun x hx => ⟨(h.t x hx).1.up hB, (h.t x hx).2⟩⟩
theorem PolV.nil (w : World) (B : Nat) : PolV w B none [] := ⟨⟨.inl rfl, fun x hx => by cases hx⟩, ⟨fun h => absurd h (Nat.lt_irrefl _), fun _ => rfl, Nat.zero_le _⟩, fun x hx => by cases hx⟩
theorem StrV.fr {w w' : World} {B : Nat} {ao : Option Addr} {ss : List ByteArray} (h : StrV w B ao ss) (f : Fr (up B) w w') : StrV w' B ao ss := ⟨cat_fr h.v h.b f, h.b, h.s⟩
theorem StrV.up {w w' : World} {B B' : Nat} {ao : Option Addr} {ss : List ByteArray} (h : StrV w B ao ss) (f : Fr nob w w') (hB : B ≤ B') : StrV w' B' ao ss := ⟨h.v.fr0 f, h.b.up hB, h.s⟩
theorem StrV.nil (w : World) (B : Nat) : StrV w B none [] := ⟨.inl rfl, ⟨fun h => absurd h (Nat.lt_irrefl _), fun _ => rfl, Nat.zero_le _⟩, fun x hx => by cases hx⟩
end Go.Proofs.YtjgcfffepkmojaaGreat
