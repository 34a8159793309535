import Derived.Test.YtfniofpeilgnnaaEncode
namespace Go.Proofs.Ytfniofpeilgnnaa
open Go.RowKit
set_option linter.unusedVariables false

theorem Fr.like {S : Nat → Prop} {a b b' : World} (h : Fr S a b) (e1 : b'.os = b.os) (e2 : b'.tape = b.tape) (e3 : b'.output = b.output) (e4 : b'.heap = b.heap) : Fr S a b' :=
  ⟨e1.trans h.os, e2.trans h.tape, e3.trans h.output, by rw [e4]; exact h.size, fun k hk hs => by rw [e4]; exact h.block k hk hs⟩
/-- A string's byte. -/
def byt (s : ByteArray) (j : Nat) : Int := if h : j < s.size then ((s[j]'h).toNat : Int) else 0
theorem byt_eq (s : ByteArray) (j : Nat) (h : j < s.size) : ((s[j]'h).toNat : Int) = byt s j := by rw [byt, dif_pos h]
theorem byt_bd (s : ByteArray) (j : Nat) : 0 ≤ byt s j ∧ byt s j < 256 := by
  unfold byt
  split
  · rename_i h; have := (s[j]'h).toNat_lt; omega
  · omega
theorem bcs_byt (s : ByteArray) (k : Nat) (h : k < s.size) : (bcs s)[k]? = some (.int .u8 (byt s k)) := by rw [bcs_get s k h, byt_eq]
/-- A word. -/
def wd (s : ByteArray) (k : Nat) : Int := byt s k + byt s (k + 1) * 256 + byt s (k + 2) * 65536 + byt s (k + 3) * 16777216
/-- The instruction at a place. -/
def decI (s : ByteArray) (i : Nat) : Ins := ⟨byt s i + byt s (i + 1) * 256, byt s (i + 2), byt s (i + 3), wd s (i + 4)⟩
def decL (s : ByteArray) (n : Nat) : List Ins := (List.range n).map fun k => decI s (k * 8)
theorem decL_len (s : ByteArray) (n : Nat) : (decL s n).length = n := by simp [decL]
theorem decL_succ (s : ByteArray) (n : Nat) : decL s (n + 1) = decL s n ++ [decI s (n * 8)] := by simp [decL, List.range_succ]
theorem wd_code (s : ByteArray) (i : Nat) : wd s i % 65536 = byt s i + byt s (i + 1) * 256 := by
  have h0 := byt_bd s i
  have h1 := byt_bd s (i + 1)
  have h2 := byt_bd s (i + 2)
  have h3 := byt_bd s (i + 3)
  unfold wd
  omega
theorem wd_bd (s : ByteArray) (i : Nat) : 0 ≤ wd s i ∧ wd s i < 4294967296 := by
  have h0 := byt_bd s i
  have h1 := byt_bd s (i + 1)
  have h2 := byt_bd s (i + 2)
  have h3 := byt_bd s (i + 3)
  unfold wd
  omega
theorem byte_lt (b : UInt8) : (b.toNat : Int) < 256 := by have := b.toNat_lt; omega

end Go.Proofs.Ytfniofpeilgnnaa
