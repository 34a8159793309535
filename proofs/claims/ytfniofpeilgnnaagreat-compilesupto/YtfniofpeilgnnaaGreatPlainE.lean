import Derived.Test.YtfniofpeilgnnaaGreatPlainD
namespace Go.Proofs.YtfniofpeilgnnaaGreat
open Go.RowKit
set_option linter.unusedVariables false

theorem view_frB {S : Nat → Prop} {w w' : World} {ao : Option Addr} {xs : List Value} (h : View w ao xs) (f : Fr S w w') (hb : xs ≠ [] → ∀ b off, ao = some ⟨b, off, none⟩ → ¬ S b) : View w' ao xs := by
  by_cases hx : xs = []
  · exact .inl hx
  · exact h.fr f (hb hx)
theorem flat_ne {l : List Ins} (h : flat l ≠ []) : l ≠ [] := fun e => h (by rw [e]; rfl)

set_option maxRecDepth 100000 in
set_option maxHeartbeats 4000000 in
theorem plain_decode_bad (w : World) (B wb : Nat) (ps : Value) (hs : List Nat) (F : Nat → Prop) (hA : At w B wb ps hs F) (hlen : hs.length ≤ 90000000) (N q0 q2 q3 : Int) (a1 a2 : Option Addr) (n1 c1 n2 c2 : Nat)
    (ao : Option Addr) (cap : Nat) (l : List Ins) (hv : View w ao (flat l)) (hz : ao = none → l.length = 0) (hl : l.length ≤ 10000000) (s : ByteArray) (hsz : s.size ≤ 10000000) (hbad : s.size % 8 ≠ 0 ∨ s.size = 0 ∨ 32768 < s.size) :
    Calls Tryz.prog 12 #[.pointer (some ⟨wb, 0, none⟩), opV 1 N ao l.length cap s q0 a1 n1 c1 q2 q3 a2 n2 c2] w fun e w' => e = .returned (.bool true) ∧ ∃ hs', At w' B wb ps hs' (grow F w w') ∧ hs'.length = hs.length + 8 ∧ Ft B w.heap.size w w' := by
  have HN := hide hbad
  clear hbad
  obtain ⟨row, hI⟩ := hA.inv
  have hB := hA.le
  have HFL := hide hA.lt
  have HZ := hide hz
  clear hz
  go_enter Tryz.func12, Tryz.ntmps12
  go_wp2_with fail
  have f0 : Fr nob w (w.alloc (.cells #[.int .i64 1, .int .i64 N, .slice ao l.length cap, .string s, .int .u32 q0, .slice a1 n1 c1, .int .u32 q2, .int .u32 q3, .slice a2 n2 c2] 41)) := (Fr.refl _ w).alloc _
  have k0 : (w.alloc (.cells #[.int .i64 1, .int .i64 N, .slice ao l.length cap, .string s, .int .u32 q0, .slice a1 n1 c1, .int .u32 q2, .int .u32 q3, .slice a2 n2 c2] 41)).heap[w.heap.size]? = some (.cells #[.int .i64 1, .int .i64 N, .slice ao l.length cap, .string s, .int .u32 q0, .slice a1 n1 c1, .int .u32 q2, .int .u32 q3, .slice a2 n2 c2] 41 (0, 0)) := heap_alloc_new w _
  refine (program_any _ ao cap l (hv.fr0 f0) HZ.out (by omega)).mono ?_
  rintro e w1 ⟨rfl, ob, f1⟩
  have k1 := f1.heap k0 (fun h => h)
  have F1 : Fr nob w w1 := f0.trans f1
  have c0 : w1.cell? ⟨w.heap.size, 0, none⟩ = some (.int .i64 1) := cell_blk k1 rfl
  have c3 : w1.cell? ⟨w.heap.size, 3, none⟩ = some (.string s) := cell_blk k1 rfl
  clear f0 k0 f1 ob
  go_wp2_with fail
  refine (lent_any _ s (by omega)).mono ?_
  rintro e w2 ⟨rfl, oc, f2⟩
  have k2 := f2.heap k1 (fun h => h)
  have d3 : w2.cell? ⟨w.heap.size, 3, none⟩ = some (.string s) := cell_blk k2 rfl
  have F2 : Fr nob w w2 := F1.trans f2
  have hc2 : w.heap.size ≤ w1.heap.size := F1.size
  have hc3 : w.heap.size ≤ w2.heap.size := F2.size
  have hc23 : w1.heap.size < w2.heap.size := own_lt oc (by simp [bk, Value.ownBlock])
  clear c0 c3 k1 f2
  go_wp2_with fail
  refine (sDecode_bad _ _ s.size (s.size + 8) (by omega) HN.out).mono ?_
  rintro e w3 ⟨rfl, rfl⟩
  go_wp2_with fail
  refine (rDecode_bad _ s (by omega) HN.out).mono ?_
  rintro e w4 ⟨rfl, rfl⟩
  go_wp2_with fail
  have hsame : Calls Tryz.prog 24 #[.slice none 0 0, .slice none 0 0] w4 fun e w' => e = .returned (.bool true) ∧ Fr nob w4 w' :=
    same_any w4 none none 0 0 [] (by simp) (.inl rfl) (.inl rfl)
  refine hsame.mono ?_
  rintro e w5 ⟨rfl, f5⟩
  clear hsame
  have k5 := f5.heap k2 (fun h => h)
  have d6 : w5.cell? ⟨w.heap.size, 3, none⟩ = some (.string s) := cell_blk k5 rfl
  have F5 : Fr nob w w5 := F2.trans f5
  have oc5 := own_fr oc f5 (fun _ _ h => h)
  have hsz5 := f5.size
  clear d3 k2 f5 oc
  go_wp2_with fail
  refine (still_any _ w1.heap.size (s.size + 8) s (by omega) oc5).mono ?_
  rintro e w6 ⟨rfl, f6⟩
  have F6 : Fr nob w w6 := F5.trans f6
  have oc6 := own_fr oc5 f6 (fun _ _ h => h)
  have ol6 : Own w6 29 4 none 0 0 [] := World.ownsRow_nil _ _ _ _
  have hI6 := hI.fr F6 (fun h => h) (fun _ _ h => h) (fun _ _ h => h)
  have hs6 := F6.size
  have hsz6 := f6.size
  clear d6 k5 f6 oc5
  go_wp2_with fail
  refine (keep_i w6 B wb ps hs F row hI6 (fun x hx => by have := HFL.out x hx; omega) (by omega) (by omega) none 0 0 _ ol6 (by omega) (fun x hx => by simp [bk, Value.ownBlock] at hx)).mono ?_
  rintro e w7 ⟨rfl, hs1, row1, hI7, hl7, hh7, hI7', f7, f7''⟩
  have f7' : Ft B w.heap.size _ _ := f7'' w.heap.size (fun x hx => by simp [bk, Value.ownBlock] at hx)
  have oc7 := own_ks (oc6.alloc _) hI7' hh7 f7 (by decide) (by decide) (by decide) (fun x hx hs => own_apart oc6 ol6 (by decide) x hx (sls_i hs))
  have F7 : Ft B w.heap.size w w7 := (Ft.ofNob F6).trans f7' (Nat.le_refl _)
  have hs7 := f7'.size
  have hlen1 : hs1.length ≤ 90000004 := by omega
  clear hI6 f7 f7' f7'' hh7 hI7' oc6 ol6
  go_wp2_with fail
  refine (keep_b w7 B wb ps hs1 _ row1 hI7 (fun x hx => hx.2) (by omega) (by omega) _ (s.size + 8) (s.size + 8) _ oc7 (by omega) (fun x hx => by
    simp only [bk, Value.ownBlock, Option.some.injEq] at hx
    refine ⟨by omega, fun hx' => ?_⟩
    rcases hx'.1 with h | h | h
    · first | (have := HFL.out _ h; omega) | (have := h.2; have := HFL.out _ h.1; omega) | omega
    · omega
    · simp [bk, Value.ownBlock] at h)).mono ?_
  rintro e w8 ⟨rfl, hs2, row2, hI8, hl8, hh8, hI8', f8, f8''⟩
  have f8' : Ft B w.heap.size _ _ := f8'' w.heap.size (fun x hx => by simp only [bk, Value.ownBlock, Option.some.injEq] at hx; omega)
  have hA8 : At w8 B wb ps hs2 (grow F w w8) := ⟨⟨row2, hI8.mono (fun x hx h => ⟨h.1.elim (fun h => h.1.elim .inl (fun h => .inr (h.elim (fun h => by omega) (fun h => by simp [bk, Value.ownBlock] at h)))) (fun h => .inr (h.elim (fun h => by omega) (fun h => by simp only [bk, Value.ownBlock, Option.some.injEq] at h; omega))), hx⟩) (fun _ _ _ _ _ h => h)⟩, fun x hx => hx.2, by have := f8'.size; omega⟩
  have F8 : Ft B w.heap.size w w8 := F7.trans f8' (Nat.le_refl _)
  have hl9 : hs2.length = hs.length + 8 := by omega
  have HL := hide hl9
  clear hI7 hI8 hI8' hh8 f8 f8' f8'' oc7 hl8 hl7 hl9
  go_wp2
  go_ret
  exact ⟨rfl, hs2, hA8, HL.out, F8⟩

set_option maxRecDepth 100000 in
set_option maxHeartbeats 4000000 in
theorem plain_encode (w : World) (B wb : Nat) (ps : Value) (hs : List Nat) (F : Nat → Prop) (hA : At w B wb ps hs F) (hlen : hs.length ≤ 90000000) (N q0 q2 q3 : Int) (a1 a2 : Option Addr) (n1 c1 n2 c2 : Nat)
    (ao : Option Addr) (cap : Nat) (l : List Ins) (hv : View w ao (flat l)) (hvB : l ≠ [] → ∀ b off, ao = some ⟨b, off, none⟩ → b < B) (hz : ao = none → l.length = 0) (hl : l.length ≤ 10000000) (hok : ∀ x ∈ l, x.ok) (s : ByteArray) :
    Calls Tryz.prog 12 #[.pointer (some ⟨wb, 0, none⟩), opV 2 N ao l.length cap s q0 a1 n1 c1 q2 q3 a2 n2 c2] w fun e w' => e = .returned (.bool true) ∧ ∃ hs', At w' B wb ps hs' (grow F w w') ∧ hs'.length = hs.length + 8 ∧ Ft B w.heap.size w w' := by
  obtain ⟨row, hI⟩ := hA.inv
  have hB := hA.le
  have HFL := hide hA.lt
  have HZ := hide hz
  clear hz
  have HOK := hide hok
  have HVB := hide hvB
  clear hok hvB
  go_enter Tryz.func12, Tryz.ntmps12
  go_wp2_with fail
  have f0 : Fr nob w (w.alloc (.cells #[.int .i64 2, .int .i64 N, .slice ao l.length cap, .string s, .int .u32 q0, .slice a1 n1 c1, .int .u32 q2, .int .u32 q3, .slice a2 n2 c2] 41)) := (Fr.refl _ w).alloc _
  have k0 : (w.alloc (.cells #[.int .i64 2, .int .i64 N, .slice ao l.length cap, .string s, .int .u32 q0, .slice a1 n1 c1, .int .u32 q2, .int .u32 q3, .slice a2 n2 c2] 41)).heap[w.heap.size]? = some (.cells #[.int .i64 2, .int .i64 N, .slice ao l.length cap, .string s, .int .u32 q0, .slice a1 n1 c1, .int .u32 q2, .int .u32 q3, .slice a2 n2 c2] 41 (0, 0)) := heap_alloc_new w _
  refine (program_any _ ao cap l (hv.fr0 f0) HZ.out (by omega)).mono ?_
  rintro e w1 ⟨rfl, ob, f1⟩
  have k1 := f1.heap k0 (fun h => h)
  have F1 : Fr nob w w1 := f0.trans f1
  have c0 : w1.cell? ⟨w.heap.size, 0, none⟩ = some (.int .i64 2) := cell_blk k1 rfl
  have c2' : w1.cell? ⟨w.heap.size, 2, none⟩ = some (.slice ao l.length cap) := cell_blk k1 rfl
  clear f0 k0 f1
  go_wp2_with fail
  rw [World.size_alloc] at ob
  have hvb : View w1 (some ⟨w.heap.size + 1, 0, none⟩) (flat l) := own_view ob (by rw [flat_append, List.take_left'  rfl])
  refine (sEncode_any _ _ (l.length + 8) l hl hvb HOK.out).mono ?_
  rintro e w2 ⟨g, c, rfl, oc, hg, f2⟩
  have k2 := f2.heap k1 (fun h => h)
  have F2 : Fr nob w w2 := F1.trans f2
  have hs1 := F1.size
  have ob2 := own_fr ob f2 (fun _ _ h => h)
  have hob2 : w.heap.size + 1 < w1.heap.size := own_lt ob (by simp [bk, Value.ownBlock])
  have hv2 := hv.fr0 F2
  have d2 : w2.cell? ⟨w.heap.size, 2, none⟩ = some (.slice ao l.length cap) := cell_blk k2 rfl
  have hcv : ∀ w', Own w' 5 1 (some ⟨g, 0, none⟩) (l.length * 8) c (u8s (enc l)) → (convert 32 9 (.slice (some ⟨g, 0, none⟩) (l.length * 8) c)).run Tryz.prog w' = .ok (.string (toBA (enc l))) w' := fun w' h => conv_own w' _ _ _ _ h
  clear c0 c2' k1 f2 ob hvb
  go_wp2_with fail
  go_region_held3 (fun w' => Own w' 5 1 (some ⟨g, 0, none⟩) (l.length * 8) c (u8s (enc l)) ∧ w'.cell? ⟨w.heap.size, 2, none⟩ = some (.slice ao l.length cap)) (first | exact ⟨oc, d2⟩ | exact ⟨oc3, d3⟩)
    ((go_at_call 9; refine (rEncode_any _ ao cap l hl (by exact hv2.fr0 ((Fr.refl nob w2).like rfl rfl rfl rfl)) HOK.out).mono ?_; rintro e w3 ⟨rfl, f3⟩; have f3' : Fr nob w2 w3 := ⟨f3.os, f3.tape, f3.output, f3.size, f3.block⟩; have oc3 := own_fr oc f3' (fun _ _ h => h); have k3 := f3'.heap k2 (fun h => h); have d3 : w3.cell? ⟨w.heap.size, 2, none⟩ = some (.slice ao l.length cap) := cell_blk k3 rfl))
  have F3 : Fr nob w w3 := F2.trans f3'
  have ob3 := own_fr ob2 f3' (fun _ _ h => h)
  have hI3 := hI.fr F3 (fun h => h) (fun _ _ h => h) (fun _ _ h => h)
  have hs3 := F3.size
  have hs32 := f3'.size
  have hg3 : g < w3.heap.size := own_lt oc3 (by simp [bk, Value.ownBlock])
  have hs21 : w1.heap.size ≤ w2.heap.size := by
    have := own_lt oc (k := g) (by simp [bk, Value.ownBlock]); omega
  clear hcv oc d2 d3 k2 ob2 hv2 f3 f3'
  go_wp2_with fail
  refine (keep_b w3 B wb ps hs F row hI3 (fun x hx => by have := HFL.out x hx; omega) (by omega) (by omega) _ (l.length * 8) c _ oc3 (by omega) (fun x hx => by simp only [bk, Value.ownBlock, Option.some.injEq] at hx; exact ⟨by omega, fun h => by have := HFL.out x h; omega⟩)).mono ?_
  rintro e w4 ⟨rfl, hs1', row1, hI4, hl4, hh4, hI4', f4, f4''⟩
  have f4' : Ft B w.heap.size _ _ := f4'' w.heap.size (fun x hx => by simp only [bk, Value.ownBlock, Option.some.injEq] at hx; omega)
  have ob4 := own_ks (ob3.alloc _) hI4' hh4 f4 (by decide) (by decide) (by decide) (fun x hx hs => own_apart ob3 oc3 (by decide) x hx (sls_b hs))
  have k4 := blk_ks (blk_alloc k3) hI4' hh4 f4 (by decide) (by decide) (by decide) (by decide) (by decide) (by decide) (by decide)
  have F4 : Ft B w.heap.size w w4 := (Ft.ofNob F3).trans f4' (Nat.le_refl _)
  have hv4 : View w4 ao (flat l) := view_frB hv F4.up (fun hne b off e => by have := HVB.out (flat_ne hne) b off e; simp only [up]; omega)
  have hs4 := f4'.size
  have d4 : w4.cell? ⟨w.heap.size, 0, none⟩ = some (.int .i64 2) := cell_blk k4 rfl
  have d5 : w4.cell? ⟨w.heap.size, 2, none⟩ = some (.slice ao l.length cap) := cell_blk k4 rfl
  have hlen1 : hs1'.length ≤ 90000004 := by omega
  clear hI3 f4 f4' f4'' hh4 hI4' oc3 ob3 k3
  go_wp2_with fail
  refine (kept_any _ (w.heap.size + 1) (l.length + 8) ao cap l (by omega) ob4 hv4).mono ?_
  rintro e w5 ⟨rfl, f5⟩
  have ob5 := own_fr ob4 f5 (fun _ _ h => h)
  have hI5 := hI4.fr f5 (fun h => h) (fun _ _ h => h) (fun _ _ h => h)
  have hs5 := f5.size
  have F5 : Ft B w.heap.size w w5 := F4.trans (Ft.ofNob (S0 := w.heap.size) f5) (Nat.le_refl _)
  clear hI4 k4 d4 d5 ob4 f5 hv4
  go_wp2_with fail
  refine (keep_i w5 B wb ps hs1' _ row1 hI5 (fun x hx => by have := hx.2; omega) (by omega) (by omega) _ (l.length + 8) (l.length + 8) _ ob5 (by omega) (fun x hx => by
    simp only [bk, Value.ownBlock, Option.some.injEq] at hx
    refine ⟨by omega, fun hx' => ?_⟩
    rcases hx'.1 with h | h | h
    · first | (have := HFL.out _ h; omega) | (have := h.2; have := HFL.out _ h.1; omega) | omega
    · omega
    · simp only [bk, Value.ownBlock, Option.some.injEq] at h; omega)).mono ?_
  rintro e w6 ⟨rfl, hs2, row2, hI6, hl6, hh6, hI6', f6, f6''⟩
  have f6' : Ft B w.heap.size _ _ := f6'' w.heap.size (fun x hx => by simp only [bk, Value.ownBlock, Option.some.injEq] at hx; omega)
  have hA6 : At w6 B wb ps hs2 (grow F w w6) := ⟨⟨row2, hI6.mono (fun x hx h => ⟨h.1.elim (fun h => h.1.elim .inl (fun h => .inr (h.elim (fun h => by omega) (fun h => by simp only [bk, Value.ownBlock, Option.some.injEq] at h; omega)))) (fun h => .inr (h.elim (fun h => by omega) (fun h => by simp only [bk, Value.ownBlock, Option.some.injEq] at h; omega))), hx⟩) (fun _ _ _ _ _ h => h)⟩, fun x hx => hx.2, by have := f6'.size; omega⟩
  have F6 : Ft B w.heap.size w w6 := F5.trans f6' (Nat.le_refl _)
  have hl9 : hs2.length = hs.length + 8 := by omega
  have HL := hide hl9
  clear hI5 hI6 hI6' hh6 f6 f6' f6'' ob5 hl6 hl4 hl9
  go_wp2
  go_ret
  exact ⟨rfl, hs2, hA6, HL.out, F6⟩
#print axioms plain_encode
end Go.Proofs.YtfniofpeilgnnaaGreat
