import Derived.Test.YtfniofpeilgnnaaGreatKeep
namespace Go.Proofs.YtfniofpeilgnnaaGreat
open Go.RowKit
set_option linter.unusedVariables false

theorem rep_get (r : List Value) (n k j : Nat) (hk : k < n) (hj : j < r.length) : (rep r n)[k * r.length + j]? = r[j]? := by
  induction n with
  | zero => omega
  | succ n ih =>
    have hl := rep_len r n
    rw [rep]
    by_cases h : k < n
    · have : k * r.length + j < n * r.length := by
        have := Nat.mul_le_mul_right r.length (show k + 1 ≤ n from h)
        rw [Nat.succ_mul] at this; omega
      rw [List.getElem?_append_left (by omega)]; exact ih h
    · have : k = n := by omega
      subst this
      rw [List.getElem?_append_right (by omega), hl, Nat.add_sub_cancel_left]
theorem mB_get (m : Int) (n k : Nat) (hk : k < n) : (mB m n)[k]? = some (.int .u8 (sgn m k)) := by
  simp [mB, hk]
theorem own_get {w : World} {e : TypeId} {size g : Nat} {n cap : Nat} {xs : List Value} (h : Own w e size (some ⟨g, 0, none⟩) n cap xs) {j : Nat} {v : Value} (hj : xs[j]? = some v) : w.cell? ⟨g, j, none⟩ = some v := by
  have hlt : j < xs.length := (List.getElem?_eq_some_iff.1 hj).1
  rw [own_cell h j hlt]; rw [List.getElem?_eq_some_iff] at hj; exact congrArg some hj.2

set_option maxRecDepth 100000 in
set_option maxHeartbeats 2000000 in
theorem marked_any (w : World) (hb : Nat) (m : Int) (b i r t : Sl) (h : HoldS w hb m b i r t) (hm : Mk m b i r t) (h0 : 0 ≤ m) (h1 : m ≤ 1000000000) (hs : small 1000000000 b i r t) :
    Calls Tryz.prog 19 #[.pointer (some ⟨hb, 0, none⟩)] w fun e w' => e = .returned (.bool true) ∧ Fr nob w w' := by
  obtain ⟨bb, bi, br, bt⟩ := hs
  go_enter Tryz.func19, Tryz.ntmps19
  go_wp2_with fail
  go_loopw [3, 4] (fun o i wr => ∃ k : Nat, k ≤ b.n ∧ o = .bool true ∧ i = .int .i64 k ∧ Fr nob w wr) (fun _ i _ => b.n - (intOf i).toNat)
  case atStart => exact ⟨0, Nat.zero_le _, rfl, rfl, Fr.refl _ _⟩
  case round =>
    obtain ⟨k, hk, rfl, rfl, f⟩ := hrel
    have hw := h.fr f (fun h => h) (fun _ _ h => h)
    have c0 : wr.cell? ⟨hb, 0, none⟩ = some (.slice b.a b.n b.c) := cell_blk hw.blk rfl
    have c4 : wr.cell? ⟨hb, 4, none⟩ = some (.int .i64 m) := cell_blk hw.blk rfl
    by_cases hlt : k < b.n
    · obtain ⟨g, hg⟩ := own_some hw.ob hlt
      rw [hg] at c0
      have ho := hw.ob
      rw [hg] at ho
      have hu : wr.cell? ⟨g, k, none⟩ = some (.int .u8 (sgn m k)) := own_get ho (by rw [hm.b]; exact mB_get m _ k hlt)
      clear ho hg
      go_wp2_with fail
      go_quiet ((go_at_call 42; exact Calls.quiet_of_same (sign_any _ _ _ (by omega) (by omega) (by omega) (by omega))))
      go_wp2
      go_roundw
      case rel => exact ⟨k + 1, by omega, rfl, by go_num, f.drewN _⟩
      case measure => simp [intOf]; omega
    · go_wp2_with fail
      go_loopw [3, 5] (fun o j wr => ∃ k : Nat, k ≤ i.n ∧ o = .bool true ∧ j = .int .i64 k ∧ Fr nob w wr) (fun _ j _ => i.n - (intOf j).toNat)
      case atStart => exact ⟨0, Nat.zero_le _, rfl, rfl, f⟩
      case round =>
        clear hw c0 c4 f
        obtain ⟨k, hk, rfl, rfl, f⟩ := hrel
        have hw := h.fr f (fun h => h) (fun _ _ h => h)
        have c0 : wr.cell? ⟨hb, 1, none⟩ = some (.slice i.a i.n i.c) := cell_blk hw.blk rfl
        have c4 : wr.cell? ⟨hb, 4, none⟩ = some (.int .i64 m) := cell_blk hw.blk rfl
        by_cases hlt : k < i.n
        · obtain ⟨g, hg⟩ := own_some hw.oi hlt
          rw [hg] at c0
          have ho := hw.oi
          rw [hg] at ho
          have u0 : wr.cell? ⟨g, k * 4, none⟩ = some (.int .u16 7777) := own_get ho (by rw [hm.i]; exact rep_get (mI m) _ k 0 hlt (by simp [mI]))
          have u1 : wr.cell? ⟨g, k * 4 + 1, none⟩ = some (.int .u8 0) := own_get ho (by rw [hm.i]; exact rep_get (mI m) _ k 1 hlt (by simp [mI]))
          have u2 : wr.cell? ⟨g, k * 4 + 2, none⟩ = some (.int .u8 0) := own_get ho (by rw [hm.i]; exact rep_get (mI m) _ k 2 hlt (by simp [mI]))
          have u3 : wr.cell? ⟨g, k * 4 + 3, none⟩ = some (.int .u32 m) := own_get ho (by rw [hm.i]; exact rep_get (mI m) _ k 3 hlt (by simp [mI]))
          have hwm := wrapU32 m h0 h1
          clear ho hg
          go_wp2_with fail
          go_quiet (fail)
          go_wp2
          go_roundw
          case rel => exact ⟨k + 1, by omega, rfl, by go_num, f.drewN _⟩
          case measure => simp [intOf]; omega
        · go_wp2_with fail
          go_loopw [3, 6] (fun o j wr => ∃ k : Nat, k ≤ r.n ∧ o = .bool true ∧ j = .int .i64 k ∧ Fr nob w wr) (fun _ j _ => r.n - (intOf j).toNat)
          case atStart => exact ⟨0, Nat.zero_le _, rfl, rfl, f⟩
          case round =>
            clear hw c0 c4 f
            obtain ⟨k, hk, rfl, rfl, f⟩ := hrel
            have hw := h.fr f (fun h => h) (fun _ _ h => h)
            have hlt0 := hw.lt
            have c0 : wr.cell? ⟨hb, 2, none⟩ = some (.slice r.a r.n r.c) := cell_blk hw.blk rfl
            have c4 : wr.cell? ⟨hb, 4, none⟩ = some (.int .i64 m) := cell_blk hw.blk rfl
            by_cases hlt : k < r.n
            · obtain ⟨g, hg⟩ := own_some hw.or hlt
              rw [hg] at c0
              have ho := hw.or
              rw [hg] at ho
              have u0 : wr.cell? ⟨g, k * 3, none⟩ = some (.int .u32 m) := own_get ho (by rw [hm.r]; exact rep_get (mR m) _ k 0 hlt (by simp [mR]))
              have u1 : wr.cell? ⟨g, k * 3 + 1, none⟩ = some (.slice none 0 0) := own_get ho (by rw [hm.r]; exact rep_get (mR m) _ k 1 hlt (by simp [mR]))
              have u2 : wr.cell? ⟨g, k * 3 + 2, none⟩ = some (.int .u32 0) := own_get ho (by rw [hm.r]; exact rep_get (mR m) _ k 2 hlt (by simp [mR]))
              have hwm := wrapU32 m h0 h1
              clear ho hg
              go_wp2_with fail
              go_quiet (fail)
              go_wp2
              go_roundw
              case rel => exact ⟨k + 1, by omega, rfl, by go_num, (f.alloc _).drewN _⟩
              case measure => simp [intOf]; omega
            · go_wp2_with fail
              go_loopw [3, 8] (fun o j wr => ∃ k : Nat, k ≤ t.n ∧ o = .bool true ∧ j = .int .i64 k ∧ Fr nob w wr) (fun _ j _ => t.n - (intOf j).toNat)
              case atStart => exact ⟨0, Nat.zero_le _, rfl, rfl, f⟩
              case round =>
                clear hw c0 c4 f hlt0
                obtain ⟨k, hk, rfl, rfl, f⟩ := hrel
                have hw := h.fr f (fun h => h) (fun _ _ h => h)
                have c0 : wr.cell? ⟨hb, 3, none⟩ = some (.slice t.a t.n t.c) := cell_blk hw.blk rfl
                have c4 : wr.cell? ⟨hb, 4, none⟩ = some (.int .i64 m) := cell_blk hw.blk rfl
                by_cases hlt : k < t.n
                · obtain ⟨g, hg⟩ := own_some hw.ot hlt
                  rw [hg] at c0
                  have ho := hw.ot
                  rw [hg] at ho
                  have u0 : wr.cell? ⟨g, k * 4, none⟩ = some (.int .i64 (-m)) := own_get ho (by rw [hm.t]; exact rep_get (mT m) _ k 0 hlt (by simp [mT]))
                  have u1 : wr.cell? ⟨g, k * 4 + 1, none⟩ = some (.int .i64 0) := own_get ho (by rw [hm.t]; exact rep_get (mT m) _ k 1 hlt (by simp [mT]))
                  have u2 : wr.cell? ⟨g, k * 4 + 2, none⟩ = some (.int .u64 0) := own_get ho (by rw [hm.t]; exact rep_get (mT m) _ k 2 hlt (by simp [mT]))
                  have u3 : wr.cell? ⟨g, k * 4 + 3, none⟩ = some (.int .u64 0) := own_get ho (by rw [hm.t]; exact rep_get (mT m) _ k 3 hlt (by simp [mT]))
                  have hwm := wrapI64n m h0 h1
                  clear ho hg
                  go_wp2_with fail
                  go_quiet (fail)
                  go_wp2
                  go_roundw
                  case rel => exact ⟨k + 1, by omega, rfl, by go_num, f.drewN _⟩
                  case measure => simp [intOf]; omega
                · go_wp2
                  go_ret
                  exact ⟨rfl, f⟩

/-- 'looks': all holds read as their owners wrote them. -/
theorem looks_any (w : World) (B wb : Nat) (ps : Value) (hs : List Nat) (F : Nat → Prop) (row : Sl) (hI : Inv w B wb ps hs F anyQ row) (hlen : hs.length ≤ 100000000) :
    Calls Tryz.prog 11 #[.pointer (some ⟨wb, 0, none⟩)] w fun e w' => e = .returned (.bool true) ∧ Fr nob w w' := by
  have hrn : row.n ≤ 100000000 := by rw [hI.n]; exact hlen
  go_enter Tryz.func11, Tryz.ntmps11
  go_wp2_with fail
  go_loopw [3] (fun i wr => ∃ k : Nat, k ≤ row.n ∧ i = .int .i64 k ∧ Fr nob w wr) (fun i _ => row.n - (intOf i).toNat)
  case atStart => exact ⟨0, Nat.zero_le _, rfl, Fr.refl _ _⟩
  case round =>
    obtain ⟨k, hk, rfl, f⟩ := hrel
    have hw : Inv wr B wb ps hs F anyQ row := hI.fr f (fun h => h) (fun _ _ h => h) (fun _ _ h => h)
    have c0 : wr.cell? ⟨wb, 1, none⟩ = some (.slice row.a row.n row.c) := cell_blk hw.blk rfl
    by_cases hlt : k < row.n
    · obtain ⟨g, hg⟩ := own_some hw.own hlt
      rw [hg] at c0
      have ho := hw.own
      rw [hg] at ho
      have hlt2 : k < hs.length := by rw [← hw.n]; exact hlt
      have hu : wr.cell? ⟨g, k, none⟩ = some (.pointer (some ⟨hs[k], 0, none⟩)) := own_get ho (by rw [hw.xs]; simp [hlt2])
      obtain ⟨m, b, i, r, t, h1, h2, h3, h4, h5, _⟩ := hw.all hs[k] (List.getElem_mem hlt2)
      clear ho hg
      go_wp2_with fail
      refine (marked_any _ _ m b i r t h1 h2 h3 h4 h5).mono ?_
      rintro e w1 ⟨rfl, f1⟩
      go_wp2
      go_roundw
      case rel => exact ⟨k + 1, by omega, by go_num, f.trans f1⟩
      case measure => simp [intOf]; omega
    · go_wp2
      go_ret
      exact ⟨rfl, f⟩
#print axioms looks_any
end Go.Proofs.YtfniofpeilgnnaaGreat
