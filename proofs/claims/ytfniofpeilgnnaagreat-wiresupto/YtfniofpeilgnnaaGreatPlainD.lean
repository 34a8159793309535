import Derived.Test.YtfniofpeilgnnaaGreatPlain
namespace Go.Proofs.YtfniofpeilgnnaaGreat
open Go.RowKit
set_option linter.unusedVariables false

/-- The value of a step. -/
abbrev opV (kind N : Int) (ao : Option Addr) (n cap : Nat) (s : ByteArray) (q0 : Int) (a1 : Option Addr) (n1 c1 : Nat) (q2 q3 : Int) (a2 : Option Addr) (n2 c2 : Nat) : Value :=
  .agg #[.int .i64 kind, .int .i64 N, .slice ao n cap, .string s, .int .u32 q0, .slice a1 n1 c1, .int .u32 q2, .int .u32 q3, .slice a2 n2 c2]

set_option maxRecDepth 100000 in
set_option maxHeartbeats 4000000 in
theorem plain_decode_ok (w : World) (B wb : Nat) (ps : Value) (hs : List Nat) (F : Nat → Prop) (hA : At w B wb ps hs F) (hlen : hs.length ≤ 90000000) (N q0 q2 q3 : Int) (a1 a2 : Option Addr) (n1 c1 n2 c2 : Nat)
    (ao : Option Addr) (cap : Nat) (l : List Ins) (hv : View w ao (flat l)) (hz : ao = none → l.length = 0) (hl : l.length ≤ 10000000) (s : ByteArray) (n : Nat) (hn : s.size = n * 8) (h0 : 0 < n) (h4 : n ≤ 4096) :
    Calls Tryz.prog 12 #[.pointer (some ⟨wb, 0, none⟩), opV 1 N ao l.length cap s q0 a1 n1 c1 q2 q3 a2 n2 c2] w fun e w' => e = .returned (.bool true) ∧ ∃ hs', At w' B wb ps hs' (grow F w w') ∧ hs'.length = hs.length + 8 ∧ Ft B w.heap.size w w' := by
  have HN := hide hn
  have hsz : s.size ≤ 32768 := by omega
  clear hn
  obtain ⟨row, hI⟩ := hA.inv
  have hB := hA.le
  have HFL := hide hA.lt
  have HZ := hide hz
  clear hz
  go_enter Tryz.func12, Tryz.ntmps12
  go_wp2_with fail
  have f0 : Fr nob w (w.alloc (.cells #[.int .i64 1, .int .i64 N, .slice ao l.length cap, .string s, .int .u32 q0, .slice a1 n1 c1, .int .u32 q2, .int .u32 q3, .slice a2 n2 c2] 41)) := (Fr.refl _ w).alloc _
  have k0 : (w.alloc (.cells #[.int .i64 1, .int .i64 N, .slice ao l.length cap, .string s, .int .u32 q0, .slice a1 n1 c1, .int .u32 q2, .int .u32 q3, .slice a2 n2 c2] 41)).heap[w.heap.size]? = some (.cells #[.int .i64 1, .int .i64 N, .slice ao l.length cap, .string s, .int .u32 q0, .slice a1 n1 c1, .int .u32 q2, .int .u32 q3, .slice a2 n2 c2] 41 (0, 0)) := heap_alloc_new w _
  refine (program_any _ ao cap l (hv.fr0 f0) HZ.out (by omega)).mono ?_
  rintro e w1 ⟨rfl, ob, f1⟩
  have k1 := f1.heap k0 (fun h => h)
  have F1 : Fr nob w w1 := f0.trans f1
  have c0 : w1.cell? ⟨w.heap.size, 0, none⟩ = some (.int .i64 1) := cell_blk k1 rfl
  have c3 : w1.cell? ⟨w.heap.size, 3, none⟩ = some (.string s) := cell_blk k1 rfl
  clear f0 k0 f1 ob
  go_wp2_with fail
  refine (lent_any _ s (by omega)).mono ?_
  rintro e w2 ⟨rfl, oc, f2⟩
  have k2 := f2.heap k1 (fun h => h)
  have d3 : w2.cell? ⟨w.heap.size, 3, none⟩ = some (.string s) := cell_blk k2 rfl
  have F2 : Fr nob w w2 := F1.trans f2
  have hc2 : w.heap.size ≤ w1.heap.size := F1.size
  have hseg : Seg w2 w1.heap.size 0 (bcs s) := fun j v hj => by
    rw [Nat.zero_add]; exact own_get oc (by rw [List.getElem?_append_left (List.getElem?_eq_some_iff.1 hj).1]; exact hj)
  clear c0 c3 k1 f2
  go_wp2_with fail
  refine (sDecode_ok _ w1.heap.size 0 (s.size + 8) s n HN.out h0 h4 (by omega) hseg).mono ?_
  rintro e w3 ⟨rfl, ol, f3⟩
  have k3 := f3.heap k2 (fun h => h)
  have d4 : w3.cell? ⟨w.heap.size, 3, none⟩ = some (.string s) := cell_blk k3 rfl
  have F3 : Fr nob w w3 := F2.trans f3
  have oc3 := own_fr oc f3 (fun _ _ h => h)
  have hc3 : w.heap.size ≤ w2.heap.size := F2.size
  have hc23 : w1.heap.size < w2.heap.size := own_lt oc (by simp [bk, Value.ownBlock])
  clear d3 k2 f3 hseg oc
  go_wp2_with fail
  refine (rDecode_ok _ s n HN.out h0 h4).mono ?_
  rintro e w4 ⟨am, cm, rfl, om, hm, f4⟩
  have k4 := f4.heap k3 (fun h => h)
  have d5 : w4.cell? ⟨w.heap.size, 3, none⟩ = some (.string s) := cell_blk k4 rfl
  have F4 : Fr nob w w4 := F3.trans f4
  have oc4 := own_fr oc3 f4 (fun _ _ h => h)
  have ol4 := own_fr ol f4 (fun _ _ h => h)
  clear d4 k3 f4 oc3 ol hm
  have hdl : (decL s n).length = n := decL_len s n
  have HD := hide hdl
  clear hdl
  go_wp2_with fail
  have hsame : Calls Tryz.prog 24 #[.slice (some ⟨w2.heap.size, 0, none⟩) n n, .slice am n cm] w4 fun e w' => e = .returned (.bool true) ∧ Fr nob w4 w' := by
    have := same_any w4 (some ⟨w2.heap.size, 0, none⟩) am n cm (decL s n) (by rw [HD.out]; omega) (own_view ol4 (by rw [List.take_length])) (own_view om (by rw [List.take_length]))
    rw [HD.out] at this; exact this
  refine hsame.mono ?_
  rintro e w5 ⟨rfl, f5⟩
  clear hsame
  have k5 := f5.heap k4 (fun h => h)
  have d6 : w5.cell? ⟨w.heap.size, 3, none⟩ = some (.string s) := cell_blk k5 rfl
  have F5 : Fr nob w w5 := F4.trans f5
  have oc5 := own_fr oc4 f5 (fun _ _ h => h)
  have ol5 := own_fr ol4 f5 (fun _ _ h => h)
  clear d5 k4 f5 oc4 ol4 om
  go_wp2_with fail
  refine (still_any _ w1.heap.size (s.size + 8) s (by omega) oc5).mono ?_
  rintro e w6 ⟨rfl, f6⟩
  have F6 : Fr nob w w6 := F5.trans f6
  have oc6 := own_fr oc5 f6 (fun _ _ h => h)
  have ol6 := own_fr ol5 f6 (fun _ _ h => h)
  have hI6 := hI.fr F6 (fun h => h) (fun _ _ h => h) (fun _ _ h => h)
  have hs6 := F6.size
  have hl6 : w2.heap.size < w6.heap.size := own_lt ol6 (by simp [bk, Value.ownBlock])
  clear d6 k5 f6 oc5 ol5
  go_wp2_with fail
  refine (keep_i w6 B wb ps hs F row hI6 (fun x hx => by have := HFL.out x hx; omega) (by omega) (by omega) _ n n _ ol6 (by omega) (fun x hx => by simp only [bk, Value.ownBlock, Option.some.injEq] at hx; exact ⟨by omega, fun h => by have := HFL.out x h; omega⟩)).mono ?_
  rintro e w7 ⟨rfl, hs1, row1, hI7, hl7, hh7, hI7', f7, f7''⟩
  have f7' : Ft B w.heap.size _ _ := f7'' w.heap.size (fun x hx => by simp only [bk, Value.ownBlock, Option.some.injEq] at hx; omega)
  have oc7 := own_ks (oc6.alloc _) hI7' hh7 f7 (by decide) (by decide) (by decide) (fun x hx hs => own_apart oc6 ol6 (by decide) x hx (sls_i hs))
  have F7 : Ft B w.heap.size w w7 := (Ft.ofNob F6).trans f7' (Nat.le_refl _)
  have hs7 := f7'.size
  have hlen1 : hs1.length ≤ 90000004 := by omega
  clear hI6 f7 f7' f7'' hh7 hI7' oc6 ol6
  go_wp2_with fail
  refine (keep_b w7 B wb ps hs1 _ row1 hI7 (fun x hx => hx.2) (by omega) (by omega) _ (s.size + 8) (s.size + 8) _ oc7 (by omega) (fun x hx => by
    simp only [bk, Value.ownBlock, Option.some.injEq] at hx
    refine ⟨by omega, fun hx' => ?_⟩
    rcases hx'.1 with h | h | h
    · first | (have := HFL.out _ h; omega) | (have := h.2; have := HFL.out _ h.1; omega) | omega
    · omega
    · simp only [bk, Value.ownBlock, Option.some.injEq] at h; omega)).mono ?_
  rintro e w8 ⟨rfl, hs2, row2, hI8, hl8, hh8, hI8', f8, f8''⟩
  have f8' : Ft B w.heap.size _ _ := f8'' w.heap.size (fun x hx => by simp only [bk, Value.ownBlock, Option.some.injEq] at hx; omega)
  have hA8 : At w8 B wb ps hs2 (grow F w w8) := ⟨⟨row2, hI8.mono (fun x hx h => ⟨h.1.elim (fun h => h.1.elim .inl (fun h => .inr (h.elim (fun h => by omega) (fun h => by simp only [bk, Value.ownBlock, Option.some.injEq] at h; omega)))) (fun h => .inr (h.elim (fun h => by omega) (fun h => by simp only [bk, Value.ownBlock, Option.some.injEq] at h; omega))), hx⟩) (fun _ _ _ _ _ h => h)⟩, fun x hx => hx.2, by have := f8'.size; omega⟩
  have F8 : Ft B w.heap.size w w8 := F7.trans f8' (Nat.le_refl _)
  have hl9 : hs2.length = hs.length + 8 := by omega
  have HL := hide hl9
  clear hI7 hI8 hI8' hh8 f8 f8' f8'' oc7 hl8 hl7 hl9
  go_wp2
  go_ret
  exact ⟨rfl, hs2, hA8, HL.out, F8⟩
#print axioms plain_decode_ok
end Go.Proofs.YtfniofpeilgnnaaGreat
