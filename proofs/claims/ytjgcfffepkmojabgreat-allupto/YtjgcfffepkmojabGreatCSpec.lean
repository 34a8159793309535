import Derived.Test.YtjgcfffepkmojabGreatPolV
import Derived.Test.YtjgcfffepkmojabGreatGood
namespace Go.Proofs.YtjgcfffepkmojabGreat
open Go.RowKit
set_option linter.unusedVariables false

/-! ### What the program's Compile makes, as data -/
abbrev ld (a : Int) : Ins := ⟨32, 0, 0, a⟩
abbrev vd (v : Int) : Ins := ⟨6, 0, 0, v⟩
abbrev br (c k : Int) (y n : Nat) : Ins := ⟨c, (y : Int), (n : Int), k⟩
abbrev an (k : Int) : Ins := ⟨84, 0, 0, k⟩
/-- One word of a test: where, which bits, what it is compared with. -/
structure Hlf where
  p : Int
  m : Int
  v : Int
def Hlf.val (h : Hlf) : Value := .agg #[.int .u32 h.p, .int .u32 h.m, .int .u32 h.v]
def Hlf.ld (h : Hlf) : List Ins := if h.m = 4294967295 then [Go.Proofs.YtjgcfffepkmojabGreat.ld h.p] else [Go.Proofs.YtjgcfffepkmojabGreat.ld h.p, an h.m]
def Tst.msk (t : Tst) : Int := if t.how = 6 then t.mask else 18446744073709551615
def Tst.lo (t : Tst) : Hlf := ⟨16 + 8 * t.arg, t.msk % 4294967296, t.value % 4294967296⟩
def Tst.up (t : Tst) : Hlf := ⟨16 + 8 * t.arg + 4, t.msk / 4294967296, t.value / 4294967296⟩
def cmp1 (t : Tst) (c : Int) (y n : Nat) : List Ins := t.lo.ld ++ [br c t.lo.v y n]
def cmp2 (t : Tst) (c : Int) (y n : Nat) : List Ins := br 21 t.up.v 0 ((cmp1 t c y n).length + n) :: cmp1 t c y n
def cmp3 (t : Tst) (c : Int) (y n : Nat) : List Ins := if c = 21 then cmp2 t c y n else br 37 t.up.v ((cmp1 t c y n).length + 1 + y) 0 :: cmp2 t c y n
def cmp4 (t : Tst) (c : Int) (y n : Nat) : List Ins := t.up.ld ++ cmp3 t c y n
def coT (t : Tst) (over : Nat) : List Ins :=
  if t.how = 1 then cmp4 t 21 over 0 else if t.how = 2 then cmp4 t 53 over 0 else if t.how = 3 then cmp4 t 37 over 0 else if t.how = 4 then cmp4 t 37 0 over else if t.how = 5 then cmp4 t 53 0 over else cmp4 t 21 0 over
def coTs : List Tst → List Ins → List Ins
  | [], l => l
  | t :: ts, l => coT t (coTs ts l).length ++ coTs ts l
def isLd0 (x : Ins) : Bool := x.code == 32 && x.jt == 0 && x.jf == 0 && x.k == 0
abbrev RD := Int × List Tst × Int
def coR (x : RD) (next : Ins) : List Ins := ld 0 :: br 21 x.1 0 ((coTs x.2.1 [vd x.2.2]).length + (if isLd0 next then 1 else 0)) :: coTs x.2.1 [vd x.2.2]
def coRs (els : Int) : List RD → List Ins
  | [] => [vd els]
  | x :: rs => coR x ((coRs els rs).headD zI) ++ coRs els rs
def coP (arch els oth : Int) (rs : List RD) : List Ins := ld 4 :: br 21 arch 1 0 :: vd oth :: coRs els rs
def mayT (t : Tst) : Bool := decide (0 ≤ t.arg) && decide (t.arg ≤ 5) && decide (0 ≤ t.how) && decide (t.how ≤ 6)
def mayD (rs : List RD) : Bool := decide (rs.length ≤ 40) && rs.all fun x => decide (x.2.1.length ≤ 6) && x.2.1.all mayT
def co (arch els oth : Int) (rs : List RD) : List Ins × Int := if mayD rs then (coP arch els oth rs, 0) else ([], 11)

/-! ### How long each is -/
theorem Hlf.ld_ne (h : Hlf) : h.ld ≠ [] := by unfold Hlf.ld; split <;> simp
theorem Hlf.ld_len (h : Hlf) : 1 ≤ h.ld.length ∧ h.ld.length ≤ 2 := by unfold Hlf.ld; split <;> simp
theorem cmp1_len (t : Tst) (c : Int) (y n : Nat) : (cmp1 t c y n).length = t.lo.ld.length + 1 := by simp [cmp1]
theorem cmp4_len (t : Tst) (c : Int) (y n : Nat) : 4 ≤ (cmp4 t c y n).length ∧ (cmp4 t c y n).length ≤ 7 := by
  have h1 := t.lo.ld_len
  have h2 := t.up.ld_len
  unfold cmp4 cmp3
  split <;> simp [cmp2, cmp1_len] <;> omega
end Go.Proofs.YtjgcfffepkmojabGreat
