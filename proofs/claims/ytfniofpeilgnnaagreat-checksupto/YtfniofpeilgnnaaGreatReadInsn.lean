import Derived.Test.YtfniofpeilgnnaaGreatEncode
import Derived.Lib.EndianBits

namespace Go.Proofs.YtfniofpeilgnnaaGreat
open Go.RowKit
set_option linter.unusedVariables false

set_option maxRecDepth 100000 in
set_option maxHeartbeats 20000000 in
theorem readInsn_any (w : World) (g off n cap : Nat) (b0 b1 b2 b3 b4 b5 b6 b7 : Int) (hn : 8 ≤ n)
    (c0 : w.cell? ⟨g, off, none⟩ = some (.int .u8 b0)) (c1 : w.cell? ⟨g, off + 1, none⟩ = some (.int .u8 b1)) (c2 : w.cell? ⟨g, off + 2, none⟩ = some (.int .u8 b2)) (c3 : w.cell? ⟨g, off + 3, none⟩ = some (.int .u8 b3))
    (c4 : w.cell? ⟨g, off + 4, none⟩ = some (.int .u8 b4)) (c5 : w.cell? ⟨g, off + 5, none⟩ = some (.int .u8 b5)) (c6 : w.cell? ⟨g, off + 6, none⟩ = some (.int .u8 b6)) (c7 : w.cell? ⟨g, off + 7, none⟩ = some (.int .u8 b7))
    (p0 : 0 ≤ b0 ∧ b0 < 256) (p1 : 0 ≤ b1 ∧ b1 < 256) (p2 : 0 ≤ b2 ∧ b2 < 256) (p3 : 0 ≤ b3 ∧ b3 < 256) (p4 : 0 ≤ b4 ∧ b4 < 256) (p5 : 0 ≤ b5 ∧ b5 < 256) (p6 : 0 ≤ b6 ∧ b6 < 256) (p7 : 0 ≤ b7 ∧ b7 < 256) :
    Calls Tryz.prog 56 #[.slice (some ⟨g, off, none⟩) n cap] w fun e w' => e = .returned (.agg #[.int .u16 (b0 + b1 * 256), .int .u8 b2, .int .u8 b3, .int .u32 (b4 + b5 * 256 + b6 * 65536 + b7 * 16777216)]) ∧ Fr nob w w' := by
  have hg : g < w.heap.size := World.block_lt_of_cell? w _ c0
  have q0 : 0 < n := by omega
  have q1 : (1 : Int) < (n : Int) := by omega
  have q2 : (2 : Int) < (n : Int) := by omega
  have q3 : (3 : Int) < (n : Int) := by omega
  have q4 : (4 : Int) < (n : Int) := by omega
  have q5 : (5 : Int) < (n : Int) := by omega
  have q6 : (6 : Int) < (n : Int) := by omega
  have q7 : (7 : Int) < (n : Int) := by omega
  have a0 : IntKind.u16.wrap b0 = b0 := u16_wrap_id _ (by omega) (by omega)
  have a1 : IntKind.u16.wrap b1 = b1 := u16_wrap_id _ (by omega) (by omega)
  have a2 : IntKind.u16.wrap (b1 * 256) = b1 * 256 := u16_wrap_id _ (by omega) (by omega)
  have a3 : bits .or .u16 b0 (b1 * 256) = b0 + b1 * 256 := u16_or8 _ _ (by omega) (by omega) (by omega) (by omega) (by omega)
  have d4 : IntKind.u32.wrap b4 = b4 := u32_wrap_id _ (by omega) (by omega)
  have d5 : IntKind.u32.wrap b5 = b5 := u32_wrap_id _ (by omega) (by omega)
  have d6 : IntKind.u32.wrap b6 = b6 := u32_wrap_id _ (by omega) (by omega)
  have d7 : IntKind.u32.wrap b7 = b7 := u32_wrap_id _ (by omega) (by omega)
  have k5 : IntKind.u32.wrap (b5 * 256) = b5 * 256 := u32_wrap_id _ (by omega) (by omega)
  have k6 : IntKind.u32.wrap (b6 * 65536) = b6 * 65536 := u32_wrap_id _ (by omega) (by omega)
  have k7 : IntKind.u32.wrap (b7 * 16777216) = b7 * 16777216 := u32_wrap_id _ (by omega) (by omega)
  have j5 : bits .or .u32 b4 (b5 * 256) = b4 + b5 * 256 := u32_or8 _ _ (by omega) (by omega) (by omega) (by omega) (by omega)
  have j6 : bits .or .u32 (b4 + b5 * 256) (b6 * 65536) = b4 + b5 * 256 + b6 * 65536 := u32_or16 _ _ (by omega) (by omega) (by omega) (by omega) (by omega)
  have j7 : bits .or .u32 (b4 + b5 * 256 + b6 * 65536) (b7 * 16777216) = b4 + b5 * 256 + b6 * 65536 + b7 * 16777216 := u32_or24 _ _ (by omega) (by omega) (by omega) (by omega) (by omega)
  clear p0 p1 p2 p3 p4 p5 p6 p7
  go_enter Tryz.func56, Tryz.ntmps56
  go_wp2_with fail
  go_region_held3 (fun w' => w'.cell? ⟨g, off, none⟩ = some (.int .u8 b0) ∧ w'.cell? ⟨g, off + 1, none⟩ = some (.int .u8 b1) ∧ w'.cell? ⟨g, off + 2, none⟩ = some (.int .u8 b2) ∧ w'.cell? ⟨g, off + 3, none⟩ = some (.int .u8 b3) ∧ w'.cell? ⟨g, off + 4, none⟩ = some (.int .u8 b4) ∧ w'.cell? ⟨g, off + 5, none⟩ = some (.int .u8 b5) ∧ w'.cell? ⟨g, off + 6, none⟩ = some (.int .u8 b6) ∧ w'.cell? ⟨g, off + 7, none⟩ = some (.int .u8 b7)) (go_keep) (fail)
  go_wp2
  exact bodyPost_ret (v := .agg #[.int .u16 (b0 + b1 * 256), .int .u8 b2, .int .u8 b3, .int .u32 (b4 + b5 * 256 + b6 * 65536 + b7 * 16777216)]) (by simp [results, Tryz.results56, go_sem]) rfl ⟨rfl, ((Fr.refl _ w).alloc _).drew⟩
#print axioms readInsn_any
end Go.Proofs.YtfniofpeilgnnaaGreat
