import Derived.Test.YtjgcfffepkmojaaGreatBase
import Derived.Deep.AppendLies
import Derived.Deep.RegionHeld3
import Derived.Deep.DeepCutAuto
namespace Go.Proofs.YtjgcfffepkmojaaGreat
open Go.RowKit
set_option linter.unusedVariables false

section
variable {P : Program} (w : World)

/-- append onto a slice of the call's own: the new one, THE OLD ONE AS IT WAS, what may have been written. -/
theorem run_append_keep (t ty e : TypeId) (i : TypeInfo) (z : Value) (size bytes : Nat) (ht : P.underlying t = some (.slice e)) (hi : P.info? e = some i) (hz : i.zero = some z)
    (hsize : i.size = size) (hby : i.bytes = bytes) (hzs : z.cells.size = size) (hsz : 0 < size)
    (ao : Option Addr) (n cap : Nat) (xs : List Value) (hown : Own w e size ao n cap xs)
    (ad : Addr) (m c : Nat) (news : List Value) (hl : news.length = m * size) (hnews : ∀ j u, news[j]? = some u → w.cell? (ad.add j) = some u) (h1 : ∀ u ∈ news, u.oneCell' = true)
    (hm : 0 < m) (h63 : n + m ≤ maxLen) (hbytes : (n + m) * bytes ≤ 140737488355328) (H : Nat) (hH : w.heap.size = H) :
    ∃ g cap' w', (Builtin.append_ #[t, t] ty #[.slice ao n cap, .slice (some ad) m c]).run P w = .ok (.slice (some ⟨g, 0, none⟩) (n + m) cap') w' ∧
      Own w' e size (some ⟨g, 0, none⟩) (n + m) cap' (xs ++ news) ∧ Own w' e size ao n cap xs ∧ Fr (bk (.slice ao n cap)) w w' ∧ (bk (.slice ao n cap) g ∨ g = H) := by
  subst hsize
  subst hby
  subst hH
  have hsmall : n + m ≤ 9223372036854775807 := by simp only [maxLen] at h63; omega
  have hlen : (xs ++ news).length = (n + m) * i.size := by rw [List.length_append, hown.1, hl, Nat.add_mul]
  have grown : ∀ (old : Nat), old < n + m →
      (w.drew.alloc (.cells (xs.toArray ++ news.toArray ++ Builtin.zeroCells z.cells (grownCap w (n + m) old e - (n + m))) e)).ownsRow 0 e i.size
        (.slice (some ⟨w.heap.size, 0, none⟩) (n + m) (grownCap w (n + m) old e)) (n + m) (xs ++ news) := by
    intro old ho
    have hge := grownCap_ge w (n + m) old e
    have hcm : grownCap w (n + m) old e ≤ maxLen := grownCap_le_maxLen w (n + m) old e h63
    refine ⟨hlen, .inr ⟨w.heap.size, _, _, rfl, Nat.zero_le _, heap_alloc_new w.drew _, hge, hcm, ?_, ?_⟩⟩
    · simp only [Array.size_append, List.size_toArray, size_zeroCells, hzs, hown.1, hl, ← Nat.add_mul]
      congr 1
      omega
    · simp only [Array.toList_append, List.append_assoc]
      rw [← List.append_assoc, ← hlen]
      exact List.take_left
  have fr : ∀ o S, Fr S w (w.drew.alloc o) := fun o S => ((Fr.refl S w).drew).alloc o
  rcases hown.2 with ⟨hv, hn0⟩ | ⟨g, cap', cur, hv, hbg, hg, hnc, hcm, hcs, htake⟩
  · simp only [Value.slice.injEq] at hv
    obtain ⟨rfl, hn', rfl⟩ := hv
    subst hn'
    have hx : xs = [] := List.eq_nil_of_length_eq_zero (by simpa using hown.1)
    subst hx
    have hr := run_append_nil (P := P) w t ty e i z ht hi hz ad m c news hl hnews (by omega) (by omega) (by have hb := hbytes; simp only [Nat.zero_add] at hb; omega)
    have hgr := grown 0 (by omega)
    simp only [Nat.zero_add, List.nil_append, Array.empty_append] at hgr ⊢
    exact ⟨_, _, _, hr, hgr, World.ownsRow_nil _ _ _ _, fr _ _, .inr rfl⟩
  · simp only [Value.slice.injEq, true_and] at hv
    obtain ⟨rfl, rfl⟩ := hv
    by_cases hroom : n + m ≤ cap
    · have hfit : n * i.size + news.length ≤ cur.size := by rw [hl, hcs, ← Nat.add_mul]; exact Nat.mul_le_mul_right _ hroom
      have hr := run_append_room (P := P) w t ty e i ht hi g n cap cur hg ad m c news hl hnews h1 hroom hfit
      refine ⟨_, _, _, hr, ⟨hlen, .inr ⟨g, cap, _, rfl, hbg, setRow_heap w g cur _ e _ hg, hroom, hcm, ?_, ?_⟩⟩, ⟨hown.1, .inr ⟨g, cap, _, rfl, hbg, setRow_heap w g cur _ e _ hg, hnc, hcm, ?_, ?_⟩⟩,
        ⟨rfl, rfl, rfl, by simp, fun k _ hk => setRow_other w g k _ (fun e => hk (by simp [bk, Value.ownBlock, e]))⟩, .inl (by simp [bk, Value.ownBlock])⟩
      · simp only [List.size_toArray, List.length_append, List.length_take, List.length_drop, Array.length_toList]
        omega
      · rw [htake, ← hlen]
        exact List.take_left
      · simp only [List.size_toArray, List.length_append, List.length_take, List.length_drop, Array.length_toList]
        omega
      · rw [htake, List.append_assoc, ← hown.1]
        exact List.take_left
    · have holds : ∀ j u, xs[j]? = some u → w.cell? ((⟨g, 0, none⟩ : Addr).add j) = some u := hown.cells (g := g) rfl
      have hr := run_append_grow (P := P) w t ty e i z ht hi hz ⟨g, 0, none⟩ n cap xs hown.1 holds ad m c news hl hnews (by omega) (by omega) (growslice_fits (by omega) hbytes)
      exact ⟨_, _, _, hr, grown cap (by omega), own_fr hown (fr _ nob) (fun _ _ h => h), fr _ _, .inr rfl⟩

theorem wp_append_keep {o : Oper} {a : Act} {K : Act → World → Prop} {Q : Exit → Act → World → Prop} (s x : Operand) (t : TypeId)
    (ho : o.op = .call { callee := .builtin .append, args := #[s, x], argTypes := #[t, t] })
    (e : TypeId) (i : TypeInfo) (z : Value) (size bytes : Nat) (ht : P.underlying t = some (.slice e)) (hi : P.info? e = some i) (hz : i.zero = some z)
    (hsize : i.size = size) (hby : i.bytes = bytes) (hzs : z.cells.size = size) (hsz : 0 < size)
    (ao : Option Addr) (n cap : Nat) (xs : List Value) (hs : a.eval s = .slice ao n cap) (hown : Own w e size ao n cap xs)
    (ad : Addr) (m c : Nat) (news : List Value) (hx : a.eval x = .slice (some ad) m c) (hl : news.length = m * size) (hnews : ∀ j u, news[j]? = some u → w.cell? (ad.add j) = some u) (h1 : ∀ u ∈ news, u.oneCell' = true)
    (hm : 0 < m) (h63 : n + m ≤ maxLen) (hbytes : (n + m) * bytes ≤ 140737488355328) (H : Nat) (hH : w.heap.size = H)
    (h : ∀ g cap' w', Own w' e size (some ⟨g, 0, none⟩) (n + m) cap' (xs ++ news) → Own w' e size ao n cap xs → Fr (bk (.slice ao n cap)) w w' → (bk (.slice ao n cap) g ∨ g = H) → K (a.put o.dst (.slice (some ⟨g, 0, none⟩) (n + m) cap')) w') : o.wp P a w K Q := by
  obtain ⟨g, cap', w', hr, h2, h3, h4, h5⟩ := run_append_keep (P := P) w t o.type e i z size bytes ht hi hz hsize hby hzs hsz ao n cap xs hown ad m c news hl hnews h1 hm h63 hbytes H hH
  unfold Oper.wp execOp
  simp only [ho, resolve, invoke, builtin, Sem.run_bind, Sem.run_pure, Result.andThen_ok, List.map_toArray, List.map_cons, List.map_nil, hs, hx, hr]
  exact h g cap' w' h2 h3 h4 h5

theorem wpList_append_keep {ops : Array Oper} {rest : List Oper} {o : Oper} {a : Act} {Q : Exit → Act → World → Prop} (hgd : o.guard = none) (s x : Operand) (t : TypeId)
    (ho : o.op = .call { callee := .builtin .append, args := #[s, x], argTypes := #[t, t] })
    (e : TypeId) (i : TypeInfo) (z : Value) (size bytes : Nat) (ht : P.underlying t = some (.slice e)) (hi : P.info? e = some i) (hz : i.zero = some z)
    (hsize : i.size = size) (hby : i.bytes = bytes) (hzs : z.cells.size = size) (hsz : 0 < size)
    (ao : Option Addr) (n cap : Nat) (xs : List Value) (hs : a.eval s = .slice ao n cap) (hown : Own w e size ao n cap xs)
    (ad : Addr) (m c : Nat) (news : List Value) (hx : a.eval x = .slice (some ad) m c) (hl : news.length = m * size) (hnews : ∀ j u, news[j]? = some u → w.cell? (ad.add j) = some u) (h1 : ∀ u ∈ news, u.oneCell' = true)
    (hm : 0 < m) (h63 : n + m ≤ maxLen) (hbytes : (n + m) * bytes ≤ 140737488355328) (H : Nat) (hH : w.heap.size = H)
    (h : ∀ g cap' w', Own w' e size (some ⟨g, 0, none⟩) (n + m) cap' (xs ++ news) → Own w' e size ao n cap xs → Fr (bk (.slice ao n cap)) w w' → (bk (.slice ao n cap) g ∨ g = H) → wpList P ops Q rest (a.put o.dst (.slice (some ⟨g, 0, none⟩) (n + m) cap')) w') : wpList P ops Q (o :: rest) a w :=
  wpList_plain hgd fun _ hK => wp_append_keep w s x t ho e i z size bytes ht hi hz hsize hby hzs hsz ao n cap xs hs hown ad m c news hx hl hnews h1 hm h63 hbytes H hH fun g cap' w' h2 h3 h4 h5 => hK _ _ (h g cap' w' h2 h3 h4 h5)

theorem step_append_keep {ops : Array Oper} {o : Oper} {a : Act} {K : Act → World → Prop} {Q : Exit → Act → World → Prop} {E : Prop} (hgd : o.guard = none) (s x : Operand) (t : TypeId)
    (ho : o.op = .call { callee := .builtin .append, args := #[s, x], argTypes := #[t, t] })
    (e : TypeId) (i : TypeInfo) (z : Value) (size bytes : Nat) (ht : P.underlying t = some (.slice e)) (hi : P.info? e = some i) (hz : i.zero = some z)
    (hsize : i.size = size) (hby : i.bytes = bytes) (hzs : z.cells.size = size) (hsz : 0 < size)
    (ao : Option Addr) (n cap : Nat) (xs : List Value) (hs : a.eval s = .slice ao n cap) (hown : Own w e size ao n cap xs)
    (ad : Addr) (m c : Nat) (news : List Value) (hx : a.eval x = .slice (some ad) m c) (hl : news.length = m * size) (hnews : ∀ j u, news[j]? = some u → w.cell? (ad.add j) = some u) (h1 : ∀ u ∈ news, u.oneCell' = true)
    (hm : 0 < m) (h63 : n + m ≤ maxLen) (hbytes : (n + m) * bytes ≤ 140737488355328) (H : Nat) (hH : w.heap.size = H)
    (h : ∀ g cap' w', Own w' e size (some ⟨g, 0, none⟩) (n + m) cap' (xs ++ news) → Own w' e size ao n cap xs → Fr (bk (.slice ao n cap)) w w' → (bk (.slice ao n cap) g ∨ g = H) → K (a.put o.dst (.slice (some ⟨g, 0, none⟩) (n + m) cap')) w') :
    if Region.wanted o (yielded ops a.tmps) = true then Oper.wp P o a w K Q else E := by
  have hw : Region.wanted o (yielded ops a.tmps) = true := by simp [Region.wanted, hgd]
  rw [if_pos hw]
  exact wp_append_keep w s x t ho e i z size bytes ht hi hz hsize hby hzs hsz ao n cap xs hs hown ad m c news hx hl hnews h1 hm h63 hbytes H hH h
end
#print axioms step_append_keep
end Go.Proofs.YtjgcfffepkmojaaGreat

namespace Go.Proofs.YtjgcfffepkmojaaGreat
open Go.RowKit
set_option linter.unusedVariables false

theorem sign_any (m i : Int) (w : World) (h0 : 0 ≤ m) (h1 : m ≤ 20000000000000) (h2 : 0 ≤ i) (h3 : i ≤ 140737488355328) :
    Calls Tryz.prog 44 #[.int .i64 m, .int .i64 i] w fun e w' => e = .returned (.int .u8 (sgn m i)) ∧ w' = w := by
  go_enter Tryz.func44, Tryz.ntmps44
  go_wp2
  go_ret
  exact ⟨rfl, rfl⟩

set_option maxHeartbeats 4000000 in
theorem marks_any (hb : Nat) (m : Int) (w : World) (ab ai ar at_ : Option Addr) (nb cb ni ci nr cr nt ct : Nat) (xb xi xr xt : List Value)
    (hblk : w.heap[hb]? = some (.cells #[.slice ab nb cb, .slice ai ni ci, .slice ar nr cr, .slice at_ nt ct, .int .i64 m] 74 (0, 0)))
    (hob : Own w 5 1 ab nb cb xb) (hoi : Own w 29 4 ai ni ci xi) (hor : Own w 35 3 ar nr cr xr) (hot : Own w 101 4 at_ nt ct xt)
    (h0 : 0 ≤ m) (h1 : m ≤ 20000000000000) (bb : nb ≤ 140737488355328) (bi : ni ≤ 17592186044416) (br : nr ≤ 3518437208883) (bt : nt ≤ 4398046511104) :
    Calls Tryz.prog 47 #[.pointer (some ⟨hb, 0, none⟩)] w fun e w' => e = .returned (.tuple #[]) ∧
      Own w' 5 1 ab nb cb (mB m nb) ∧ Own w' 29 4 ai ni ci (rep (mI m) ni) ∧ Own w' 35 3 ar nr cr (rep (mR m) nr) ∧ Own w' 101 4 at_ nt ct (rep (mT m) nt) ∧
      Fr (bk4 (.slice ab nb cb) (.slice ai ni ci) (.slice ar nr cr) (.slice at_ nt ct)) w w' := by
  go_enter Tryz.func47, Tryz.ntmps47
  go_wp2
  go_loopw [2] (fun i wr => ∃ k : Nat, k ≤ nb ∧ i = .int .i64 k ∧ Own wr 5 1 ab nb cb (mB m k ++ xb.drop k) ∧ Fr (bk (.slice ab nb cb)) w wr) (fun i _ => nb - (intOf i).toNat)
  case atStart => exact ⟨0, Nat.zero_le _, rfl, hob, Fr.refl _ _⟩
  case round =>
    obtain ⟨k, hk, rfl, hown, f1⟩ := hrel
    have hblk1 := f1.heap hblk (own_ne hob hblk (by decide))
    have c0 : wr.cell? ⟨hb, 0, none⟩ = some (.slice ab nb cb) := cell_blk hblk1 rfl
    by_cases hlt : k < nb
    · have c4 : wr.cell? ⟨hb, 4, none⟩ = some (.int .i64 m) := cell_blk hblk1 rfl
      obtain ⟨g, rfl⟩ := own_some hown hlt
      have hfz : wr.frozen? ⟨g, k, none⟩ = false := hown.frozenAt k
      have hl : (mB m k ++ xb.drop k).length = nb * 1 := own_len hown
      obtain ⟨u, hu⟩ : ∃ u, wr.cell? ⟨g, k, none⟩ = some u := ⟨_, own_cell hown k (by omega)⟩
      have o' := own_set1 (p := k) hown (by simp [mB_len] at hl ⊢; omega) (by simp [mB_len]) (.int .u8 (sgn m k))
      rw [mB_step] at o'
      clear hblk hblk1 hob hoi hor hot
      go_wp2
      go_region_with (go_at_call 44; refine (sign_any _ _ _ (by omega) (by omega) (by omega) (by omega)).mono ?_; rintro e w' ⟨rfl, rfl⟩)
      all_goals go_wp2
      all_goals go_roundw
      all_goals first
        | exact ⟨k + 1, by omega, by go_num, own_drew o', (f1.setCell (p := ⟨g, k, none⟩) (fun _ => by simp [bk, Value.ownBlock]) _).drew⟩
        | (simp [intOf]; omega)
    · have hkn : k = nb := by omega
      subst hkn
      have o1 : Own wr 5 1 ab k cb (mB m k) := by simpa [List.drop_of_length_le (show xb.length ≤ k by have := own_len hob; omega)] using hown
      have oi1 : Own wr 29 4 ai ni ci xi := own_fr hoi f1 (fun j hj => own_apart hoi hob (by decide) j hj)
      have or1 : Own wr 35 3 ar nr cr xr := own_fr hor f1 (fun j hj => own_apart hor hob (by decide) j hj)
      have ot1 : Own wr 101 4 at_ nt ct xt := own_fr hot f1 (fun j hj => own_apart hot hob (by decide) j hj)
      clear hown hob hoi hor hot hblk
      go_wp2
      go_loopw [3] (fun i wz => ∃ j : Nat, j ≤ ni ∧ i = .int .i64 j ∧ Own wz 29 4 ai ni ci (rep (mI m) j ++ xi.drop (j * 4)) ∧ Fr (bk (.slice ai ni ci)) wr wz) (fun i _ => ni - (intOf i).toNat)
      case atStart => exact ⟨0, Nat.zero_le _, rfl, oi1, Fr.refl _ _⟩
      case round =>
        obtain ⟨j, hj, rfl, hown2, f2⟩ := hrel
        have hblk2 := f2.heap hblk1 (own_ne oi1 hblk1 (by decide))
        have c1 : wr.cell? ⟨hb, 1, none⟩ = some (.slice ai ni ci) := cell_blk hblk2 rfl
        by_cases hlt2 : j < ni
        · have c4 : wr.cell? ⟨hb, 4, none⟩ = some (.int .i64 m) := cell_blk hblk2 rfl
          obtain ⟨g, rfl⟩ := own_some hown2 hlt2
          have hl : (rep (mI m) j ++ xi.drop (j * 4)).length = ni * 4 := own_len hown2
          have hfz : ∀ z, wr.frozen? ⟨g, z, none⟩ = false := fun z => hown2.frozenAt z
          obtain ⟨u0, hu0⟩ : ∃ u, wr.cell? ⟨g, j * 4, none⟩ = some u := ⟨_, own_cell hown2 _ (by omega)⟩
          obtain ⟨u1, hu1⟩ : ∃ u, wr.cell? ⟨g, j * 4 + 1, none⟩ = some u := ⟨_, own_cell hown2 _ (by omega)⟩
          obtain ⟨u2, hu2⟩ : ∃ u, wr.cell? ⟨g, j * 4 + 2, none⟩ = some u := ⟨_, own_cell hown2 _ (by omega)⟩
          obtain ⟨u3, hu3⟩ : ∃ u, wr.cell? ⟨g, j * 4 + 3, none⟩ = some u := ⟨_, own_cell hown2 _ (by omega)⟩
          have hrl : (rep (mI m) j).length = j * 4 := rep_len _ _
          have o' := own_set4 (p := j * 4) (q := j * 4 + 1) (r := j * 4 + 2) (t := j * 4 + 3) hown2 (by simp only [List.length_append] at hl; omega) (by omega) (by omega) (by omega) (by omega) (.int .u16 7777) (.int .u8 0) (.int .u8 0) (.int .u32 (m % 4294967296))
          rw [show [Value.int .u16 7777, Value.int .u8 0, Value.int .u8 0, Value.int .u32 (m % 4294967296)] = mI m from rfl, rep_step _ _ _ 4 rfl] at o'
          have hin : (bk (.slice (some ⟨g, 0, none⟩) ni ci)) g := by simp [bk, Value.ownBlock]
          have f' := ((((f2.setCell (p := ⟨g, j * 4, none⟩) (fun _ => hin) (.int .u16 7777)).setCell (p := ⟨g, j * 4 + 1, none⟩) (fun _ => hin) (.int .u8 0)).setCell (p := ⟨g, j * 4 + 2, none⟩) (fun _ => hin) (.int .u8 0)).setCell (p := ⟨g, j * 4 + 3, none⟩) (fun _ => hin) (.int .u32 (m % 4294967296))).drew
          clear hblk1 hblk2 c0 o1 oi1 or1 ot1 f1 f2 hrl hl hin
          go_wp2
          go_region
          all_goals go_wp2
          all_goals go_roundw
          all_goals first
            | exact ⟨j + 1, by omega, by go_num, own_drew o', f'⟩
            | (simp [intOf]; omega)
        · have hkn2 : j = ni := by omega
          subst hkn2
          have o2 : Own wr 29 4 ai j ci (rep (mI m) j) := by simpa [List.drop_of_length_le (show xi.length ≤ j * 4 by have := own_len oi1; omega)] using hown2
          have p2 : Own wr 5 1 ab k cb (mB m k) := own_fr o1 f2 (fun z hz => own_apart o1 oi1 (by decide) z hz)
          have or2 : Own wr 35 3 ar nr cr xr := own_fr or1 f2 (fun z hz => own_apart or1 oi1 (by decide) z hz)
          have ot2 : Own wr 101 4 at_ nt ct xt := own_fr ot1 f2 (fun z hz => own_apart ot1 oi1 (by decide) z hz)
          have F2 : Fr (bk4 (.slice ab k cb) (.slice ai j ci) (.slice ar nr cr) (.slice at_ nt ct)) w wr :=
            (f1.mono (fun z _ hz => Or.inl hz)).step f2 (fun z _ hz => Or.inr (Or.inl hz))
          clear hown2 o1 oi1 or1 ot1 f1 f2 c0 hblk1
          go_wp2
          go_loopw [4] (fun i wz => ∃ q : Nat, q ≤ nr ∧ i = .int .i64 q ∧ Own wz 35 3 ar nr cr (rep (mR m) q ++ xr.drop (q * 3)) ∧ Fr (bk (.slice ar nr cr)) wr wz) (fun i _ => nr - (intOf i).toNat)
          case atStart => exact ⟨0, Nat.zero_le _, rfl, or2, Fr.refl _ _⟩
          case round =>
            obtain ⟨q, hq, rfl, hown3, f3⟩ := hrel
            have hblk3 := f3.heap hblk2 (own_ne or2 hblk2 (by decide))
            have c2 : wr.cell? ⟨hb, 2, none⟩ = some (.slice ar nr cr) := cell_blk hblk3 rfl
            by_cases hlt3 : q < nr
            · have c4 : wr.cell? ⟨hb, 4, none⟩ = some (.int .i64 m) := cell_blk hblk3 rfl
              obtain ⟨g, rfl⟩ := own_some hown3 hlt3
              have hl : (rep (mR m) q ++ xr.drop (q * 3)).length = nr * 3 := own_len hown3
              have hfz : ∀ z, wr.frozen? ⟨g, z, none⟩ = false := fun z => hown3.frozenAt z
              obtain ⟨u0, hu0⟩ : ∃ u, wr.cell? ⟨g, q * 3, none⟩ = some u := ⟨_, own_cell hown3 _ (by omega)⟩
              obtain ⟨u1, hu1⟩ : ∃ u, wr.cell? ⟨g, q * 3 + 1, none⟩ = some u := ⟨_, own_cell hown3 _ (by omega)⟩
              obtain ⟨u2, hu2⟩ : ∃ u, wr.cell? ⟨g, q * 3 + 2, none⟩ = some u := ⟨_, own_cell hown3 _ (by omega)⟩
              have hrl : (rep (mR m) q).length = q * 3 := rep_len _ _
              have o' := own_set3 (p := q * 3) (q := q * 3 + 1) (r := q * 3 + 2) hown3 (by simp only [List.length_append] at hl; omega) (by omega) (by omega) (by omega) (.int .u32 (m % 4294967296)) (.slice none 0 0) (.int .u32 0)
              rw [show [Value.int .u32 (m % 4294967296), Value.slice none 0 0, Value.int .u32 0] = mR m from rfl, rep_step _ _ _ 3 rfl] at o'
              have hin : (bk (.slice (some ⟨g, 0, none⟩) nr cr)) g := by simp [bk, Value.ownBlock]
              have f' := (((f3.setCell (p := ⟨g, q * 3, none⟩) (fun _ => hin) (.int .u32 (m % 4294967296))).setCell (p := ⟨g, q * 3 + 1, none⟩) (fun _ => hin) (.slice none 0 0)).setCell (p := ⟨g, q * 3 + 2, none⟩) (fun _ => hin) (.int .u32 0)).drew
              clear hblk2 hblk3 c1 o2 p2 or2 ot2 F2 f3 hrl hl hin
              go_wp2
              go_region
              all_goals go_wp2
              all_goals go_roundw
              all_goals first
                | exact ⟨q + 1, by omega, by go_num, own_drew o', f'⟩
                | (simp [intOf]; omega)
            · have hkn3 : q = nr := by omega
              subst hkn3
              have o3 : Own wr 35 3 ar q cr (rep (mR m) q) := by simpa [List.drop_of_length_le (show xr.length ≤ q * 3 by have := own_len or2; omega)] using hown3
              have p3 : Own wr 5 1 ab k cb (mB m k) := own_fr p2 f3 (fun z hz => own_apart p2 or2 (by decide) z hz)
              have q3 : Own wr 29 4 ai j ci (rep (mI m) j) := own_fr o2 f3 (fun z hz => own_apart o2 or2 (by decide) z hz)
              have ot3 : Own wr 101 4 at_ nt ct xt := own_fr ot2 f3 (fun z hz => own_apart ot2 or2 (by decide) z hz)
              have F3 : Fr (bk4 (.slice ab k cb) (.slice ai j ci) (.slice ar q cr) (.slice at_ nt ct)) w wr := F2.step f3 (fun z _ hz => Or.inr (Or.inr (Or.inl hz)))
              clear hown3 o2 p2 or2 ot2 F2 f3 c1 hblk2
              go_wp2
              go_loopw [5] (fun i wz => ∃ r : Nat, r ≤ nt ∧ i = .int .i64 r ∧ Own wz 101 4 at_ nt ct (rep (mT m) r ++ xt.drop (r * 4)) ∧ Fr (bk (.slice at_ nt ct)) wr wz) (fun i _ => nt - (intOf i).toNat)
              case atStart => exact ⟨0, Nat.zero_le _, rfl, ot3, Fr.refl _ _⟩
              case round =>
                obtain ⟨r, hr, rfl, hown4, f4⟩ := hrel
                have hblk4 := f4.heap hblk3 (own_ne ot3 hblk3 (by decide))
                have c3 : wr.cell? ⟨hb, 3, none⟩ = some (.slice at_ nt ct) := cell_blk hblk4 rfl
                by_cases hlt4 : r < nt
                · have c4 : wr.cell? ⟨hb, 4, none⟩ = some (.int .i64 m) := cell_blk hblk4 rfl
                  obtain ⟨g, rfl⟩ := own_some hown4 hlt4
                  have hl : (rep (mT m) r ++ xt.drop (r * 4)).length = nt * 4 := own_len hown4
                  have hfz : ∀ z, wr.frozen? ⟨g, z, none⟩ = false := fun z => hown4.frozenAt z
                  obtain ⟨u0, hu0⟩ : ∃ u, wr.cell? ⟨g, r * 4, none⟩ = some u := ⟨_, own_cell hown4 _ (by omega)⟩
                  obtain ⟨u1, hu1⟩ : ∃ u, wr.cell? ⟨g, r * 4 + 1, none⟩ = some u := ⟨_, own_cell hown4 _ (by omega)⟩
                  obtain ⟨u2, hu2⟩ : ∃ u, wr.cell? ⟨g, r * 4 + 2, none⟩ = some u := ⟨_, own_cell hown4 _ (by omega)⟩
                  obtain ⟨u3, hu3⟩ : ∃ u, wr.cell? ⟨g, r * 4 + 3, none⟩ = some u := ⟨_, own_cell hown4 _ (by omega)⟩
                  have hrl : (rep (mT m) r).length = r * 4 := rep_len _ _
                  have o' := own_set4 (p := r * 4) (q := r * 4 + 1) (r := r * 4 + 2) (t := r * 4 + 3) hown4 (by simp only [List.length_append] at hl; omega) (by omega) (by omega) (by omega) (by omega) (.int .i64 (-m)) (.int .i64 0) (.int .u64 0) (.int .u64 0)
                  rw [show [Value.int .i64 (-m), Value.int .i64 0, Value.int .u64 0, Value.int .u64 0] = mT m from rfl, rep_step _ _ _ 4 rfl] at o'
                  have hin : (bk (.slice (some ⟨g, 0, none⟩) nt ct)) g := by simp [bk, Value.ownBlock]
                  have f' := ((((f4.setCell (p := ⟨g, r * 4, none⟩) (fun _ => hin) (.int .i64 (-m))).setCell (p := ⟨g, r * 4 + 1, none⟩) (fun _ => hin) (.int .i64 0)).setCell (p := ⟨g, r * 4 + 2, none⟩) (fun _ => hin) (.int .u64 0)).setCell (p := ⟨g, r * 4 + 3, none⟩) (fun _ => hin) (.int .u64 0)).drew
                  clear hblk3 hblk4 c2 o3 p3 q3 ot3 F3 f4 hrl hl hin
                  go_wp2
                  go_region
                  all_goals go_wp2
                  all_goals go_roundw
                  all_goals first
                    | exact ⟨r + 1, by omega, by go_num, own_drew o', f'⟩
                    | (simp [intOf]; omega)
                · have hkn4 : r = nt := by omega
                  subst hkn4
                  have o4 : Own wr 101 4 at_ r ct (rep (mT m) r) := by simpa [List.drop_of_length_le (show xt.length ≤ r * 4 by have := own_len ot3; omega)] using hown4
                  have p4 : Own wr 5 1 ab k cb (mB m k) := own_fr p3 f4 (fun z hz => own_apart p3 ot3 (by decide) z hz)
                  have q4 : Own wr 29 4 ai j ci (rep (mI m) j) := own_fr q3 f4 (fun z hz => own_apart q3 ot3 (by decide) z hz)
                  have r4 : Own wr 35 3 ar q cr (rep (mR m) q) := own_fr o3 f4 (fun z hz => own_apart o3 ot3 (by decide) z hz)
                  have F4 : Fr (bk4 (.slice ab k cb) (.slice ai j ci) (.slice ar q cr) (.slice at_ r ct)) w wr := F3.step f4 (fun z _ hz => Or.inr (Or.inr (Or.inr hz)))
                  clear hown4 o3 p3 q3 ot3 F3 f4 c2 hblk3
                  go_wp2
                  go_end0
                  exact ⟨rfl, p4, q4, r4, o4, F4⟩
#print axioms marks_any
end Go.Proofs.YtjgcfffepkmojaaGreat

namespace Go.Proofs.YtjgcfffepkmojaaGreat
open Go.RowKit
set_option linter.unusedVariables false

theorem info_u8 : (Tryz.prog.info? 5).map (fun i => (i.zero, i.size, i.bytes)) = some (some (.int .u8 0), 1, 1) := by kernel_rfl
theorem info_insn : (Tryz.prog.info? 29).map (fun i => (i.zero, i.size, i.bytes)) = some (some (.agg #[.int .u16 0, .int .u8 0, .int .u8 0, .int .u32 0]), 4, 8) := by kernel_rfl
theorem info_rule : (Tryz.prog.info? 35).map (fun i => (i.zero, i.size, i.bytes)) = some (some (.agg #[.int .u32 0, .slice none 0 0, .int .u32 0]), 3, 40) := by kernel_rfl
theorem info_test : (Tryz.prog.info? 101).map (fun i => (i.zero, i.size, i.bytes)) = some (some (.agg #[.int .i64 0, .int .i64 0, .int .u64 0, .int .u64 0]), 4, 32) := by kernel_rfl

theorem Fr.drewN {S : Nat → Prop} {a w : World} (h : Fr S a w) (n : Nat) : Fr S a (w.drewN n) := ⟨h.os, h.tape, h.output, h.size, h.block⟩
def nilS : Sl := ⟨none, 0, 0, []⟩

/-- The new slice lies where the old one lies, or in a block that is new. -/
def Lie (w : World) (s s' : Sl) : Prop := ∀ k, bk (.slice s'.a s'.n s'.c) k → bk (.slice s.a s.n s.c) k ∨ w.heap.size ≤ k
theorem lie_nil (w : World) (s : Sl) : Lie w s nilS := fun k hk => by simp [bk, nilS, Value.ownBlock] at hk
theorem lie_some {w : World} {s : Sl} {g n c H : Nat} {xs : List Value} (h : bk (.slice s.a s.n s.c) g ∨ g = H) (hH : w.heap.size ≤ H) : Lie w s ⟨some ⟨g, 0, none⟩, n, c, xs⟩ := fun k hk => by
  simp only [bk, Value.ownBlock, Option.some.injEq] at hk
  subst hk
  rcases h with h | h
  · exact .inl h
  · exact .inr (by omega)

/-- On the way through 'longer': the old hold stands, the new one is being filled. -/
structure LM (w : World) (hb gb : Nat) (m : Int) (b i r t b' i' r' t' : Sl) (wx : World) : Prop where
  old : HoldS wx hb m b i r t
  new : HoldS wx gb m b' i' r' t'
  fr : Fr (sls b i r t) w wx
  lie : Lie w b b' ∧ Lie w i i' ∧ Lie w r r' ∧ Lie w t t'

theorem LM.drew {w : World} {hb gb : Nat} {m : Int} {b i r t b' i' r' t' : Sl} {wx : World} (h : LM w hb gb m b i r t b' i' r' t' wx) : LM w hb gb m b i r t b' i' r' t' wx.drew :=
  ⟨⟨h.old.blk, h.old.ob, h.old.oi, h.old.or, h.old.ot⟩, ⟨h.new.blk, h.new.ob, h.new.oi, h.new.or, h.new.ot⟩, h.fr.drew, h.lie⟩

theorem own_keep {wc w1 : World} {el : Obj} {e e' : TypeId} {size size' : Nat} {v v' : Value} {n n' : Nat} {xs xs' : List Value} (h : wc.ownsRow 0 e size v n xs) (hs : wc.ownsRow 0 e' size' v' n' xs') (ne : e ≠ e')
    (f : Fr (bk v') (wc.alloc el) w1) : w1.ownsRow 0 e size v n xs :=
  own_fr (h.alloc el) f (fun k hk => own_apart (h.alloc el) (hs.alloc el) ne k hk)
theorem own_put {w1 : World} {e t : TypeId} {size gb j : Nat} {v u : Value} {n : Nat} {xs : List Value} {c : Array Value} {f : Nat × Nat} (h : w1.ownsRow 0 e size v n xs) (hg : w1.heap[gb]? = some (.cells c t f)) (ne : e ≠ t) :
    (w1.setCell ⟨gb, j, none⟩ u).ownsRow 0 e size v n xs :=
  own_fr h (fr_set w1 gb j u) (fun k hk hk' => own_ne h (by rw [← hk'] at hg; exact hg) ne hk)
theorem blk_alloc {w : World} {o o' : Obj} {k : Nat} (h : w.heap[k]? = some o) : (w.alloc o').heap[k]? = some o := (Below.heap_alloc w o' k (Array.getElem?_eq_some_iff.1 h).1).trans h
theorem blk_put {w1 : World} {gb j k : Nat} {u : Value} {o : Obj} (h : w1.heap[k]? = some o) (hne : k ≠ gb) : (w1.setCell ⟨gb, j, none⟩ u).heap[k]? = some o := (fr_set w1 gb j u).heap h hne

section
variable {w : World} {hb gb : Nat} {m : Int} {b i r t b' i' r' t' : Sl} {wc w1 : World} {el : Obj} {g cap' : Nat} {x : List Value}
theorem LM.stepb (h : LM w hb gb m b i r t b' i' r' t' wc) (hne : hb ≠ gb) (hgb : w.heap.size ≤ gb) (o' : Own w1 5 1 (some ⟨g, 0, none⟩) (b.n + 1) cap' (b.xs ++ x)) (o : Own w1 5 1 b.a b.n b.c b.xs)
    (f : Fr (bk (.slice b.a b.n b.c)) (wc.alloc el) w1) (hat : bk (.slice b.a b.n b.c) g ∨ g = wc.heap.size + 1) :
    LM w hb gb m b i r t ⟨some ⟨g, 0, none⟩, b.n + 1, cap', b.xs ++ x⟩ i' r' t' (w1.setCell ⟨gb, 0, none⟩ (.slice (some ⟨g, 0, none⟩) (b.n + 1) cap')) := by
  have gk := f.heap (blk_alloc h.new.blk) (own_ne (h.old.ob.alloc el) (blk_alloc h.new.blk) (by decide))
  have hk := f.heap (blk_alloc h.old.blk) (own_ne (h.old.ob.alloc el) (blk_alloc h.old.blk) (by decide))
  have hsz := h.fr.size
  refine ⟨⟨blk_put hk hne, own_put o gk (by decide), own_put (own_keep h.old.oi h.old.ob (by decide) f) gk (by decide), own_put (own_keep h.old.or h.old.ob (by decide) f) gk (by decide), own_put (own_keep h.old.ot h.old.ob (by decide) f) gk (by decide)⟩,
    ⟨heap_set gk, own_put o' gk (by decide), own_put (own_keep h.new.oi h.old.ob (by decide) f) gk (by decide), own_put (own_keep h.new.or h.old.ob (by decide) f) gk (by decide), own_put (own_keep h.new.ot h.old.ob (by decide) f) gk (by decide)⟩, ?_, ?_⟩
  · exact ((h.fr.alloc el).step f (fun k _ hk => .inl hk)).step (fr_set _ _ _ _) (fun k hk e => by omega)
  · exact ⟨lie_some hat (by omega), h.lie.2⟩
theorem LM.stepi (h : LM w hb gb m b i r t b' i' r' t' wc) (hne : hb ≠ gb) (hgb : w.heap.size ≤ gb) (o' : Own w1 29 4 (some ⟨g, 0, none⟩) (i.n + 1) cap' (i.xs ++ x)) (o : Own w1 29 4 i.a i.n i.c i.xs)
    (f : Fr (bk (.slice i.a i.n i.c)) (wc.alloc el) w1) (hat : bk (.slice i.a i.n i.c) g ∨ g = wc.heap.size + 1) :
    LM w hb gb m b i r t b' ⟨some ⟨g, 0, none⟩, i.n + 1, cap', i.xs ++ x⟩ r' t' (w1.setCell ⟨gb, 1, none⟩ (.slice (some ⟨g, 0, none⟩) (i.n + 1) cap')) := by
  have gk := f.heap (blk_alloc h.new.blk) (own_ne (h.old.oi.alloc el) (blk_alloc h.new.blk) (by decide))
  have hk := f.heap (blk_alloc h.old.blk) (own_ne (h.old.oi.alloc el) (blk_alloc h.old.blk) (by decide))
  have hsz := h.fr.size
  refine ⟨⟨blk_put hk hne, own_put (own_keep h.old.ob h.old.oi (by decide) f) gk (by decide), own_put o gk (by decide), own_put (own_keep h.old.or h.old.oi (by decide) f) gk (by decide), own_put (own_keep h.old.ot h.old.oi (by decide) f) gk (by decide)⟩,
    ⟨heap_set gk, own_put (own_keep h.new.ob h.old.oi (by decide) f) gk (by decide), own_put o' gk (by decide), own_put (own_keep h.new.or h.old.oi (by decide) f) gk (by decide), own_put (own_keep h.new.ot h.old.oi (by decide) f) gk (by decide)⟩, ?_, ?_⟩
  · exact ((h.fr.alloc el).step f (fun k _ hk => .inr (.inl hk))).step (fr_set _ _ _ _) (fun k hk e => by omega)
  · exact ⟨h.lie.1, lie_some hat (by omega), h.lie.2.2⟩
theorem LM.stepr (h : LM w hb gb m b i r t b' i' r' t' wc) (hne : hb ≠ gb) (hgb : w.heap.size ≤ gb) (o' : Own w1 35 3 (some ⟨g, 0, none⟩) (r.n + 1) cap' (r.xs ++ x)) (o : Own w1 35 3 r.a r.n r.c r.xs)
    (f : Fr (bk (.slice r.a r.n r.c)) (wc.alloc el) w1) (hat : bk (.slice r.a r.n r.c) g ∨ g = wc.heap.size + 1) :
    LM w hb gb m b i r t b' i' ⟨some ⟨g, 0, none⟩, r.n + 1, cap', r.xs ++ x⟩ t' (w1.setCell ⟨gb, 2, none⟩ (.slice (some ⟨g, 0, none⟩) (r.n + 1) cap')) := by
  have gk := f.heap (blk_alloc h.new.blk) (own_ne (h.old.or.alloc el) (blk_alloc h.new.blk) (by decide))
  have hk := f.heap (blk_alloc h.old.blk) (own_ne (h.old.or.alloc el) (blk_alloc h.old.blk) (by decide))
  have hsz := h.fr.size
  refine ⟨⟨blk_put hk hne, own_put (own_keep h.old.ob h.old.or (by decide) f) gk (by decide), own_put (own_keep h.old.oi h.old.or (by decide) f) gk (by decide), own_put o gk (by decide), own_put (own_keep h.old.ot h.old.or (by decide) f) gk (by decide)⟩,
    ⟨heap_set gk, own_put (own_keep h.new.ob h.old.or (by decide) f) gk (by decide), own_put (own_keep h.new.oi h.old.or (by decide) f) gk (by decide), own_put o' gk (by decide), own_put (own_keep h.new.ot h.old.or (by decide) f) gk (by decide)⟩, ?_, ?_⟩
  · exact ((h.fr.alloc el).step f (fun k _ hk => .inr (.inr (.inl hk)))).step (fr_set _ _ _ _) (fun k hk e => by omega)
  · exact ⟨h.lie.1, h.lie.2.1, lie_some hat (by omega), h.lie.2.2.2⟩
theorem LM.stept (h : LM w hb gb m b i r t b' i' r' t' wc) (hne : hb ≠ gb) (hgb : w.heap.size ≤ gb) (o' : Own w1 101 4 (some ⟨g, 0, none⟩) (t.n + 1) cap' (t.xs ++ x)) (o : Own w1 101 4 t.a t.n t.c t.xs)
    (f : Fr (bk (.slice t.a t.n t.c)) (wc.alloc el) w1) (hat : bk (.slice t.a t.n t.c) g ∨ g = wc.heap.size + 1) :
    LM w hb gb m b i r t b' i' r' ⟨some ⟨g, 0, none⟩, t.n + 1, cap', t.xs ++ x⟩ (w1.setCell ⟨gb, 3, none⟩ (.slice (some ⟨g, 0, none⟩) (t.n + 1) cap')) := by
  have gk := f.heap (blk_alloc h.new.blk) (own_ne (h.old.ot.alloc el) (blk_alloc h.new.blk) (by decide))
  have hk := f.heap (blk_alloc h.old.blk) (own_ne (h.old.ot.alloc el) (blk_alloc h.old.blk) (by decide))
  have hsz := h.fr.size
  refine ⟨⟨blk_put hk hne, own_put (own_keep h.old.ob h.old.ot (by decide) f) gk (by decide), own_put (own_keep h.old.oi h.old.ot (by decide) f) gk (by decide), own_put (own_keep h.old.or h.old.ot (by decide) f) gk (by decide), own_put o gk (by decide)⟩,
    ⟨heap_set gk, own_put (own_keep h.new.ob h.old.ot (by decide) f) gk (by decide), own_put (own_keep h.new.oi h.old.ot (by decide) f) gk (by decide), own_put (own_keep h.new.or h.old.ot (by decide) f) gk (by decide), own_put o' gk (by decide)⟩, ?_, ?_⟩
  · exact ((h.fr.alloc el).step f (fun k _ hk => .inr (.inr (.inr hk)))).step (fr_set _ _ _ _) (fun k hk e => by omega)
  · exact ⟨h.lie.1, h.lie.2.1, h.lie.2.2.1, lie_some hat (by omega)⟩
end

theorem LM.nb {w : World} {hb gb : Nat} {m : Int} {b i r t b' i' r' t' : Sl} {wc w1 : World} {el : Obj} (h : LM w hb gb m b i r t b' i' r' t' wc) {e : TypeId} {size n : Nat} {v : Value} {xs : List Value} (o : wc.ownsRow 0 e size v n xs) (ne : e ≠ 74)
    (f : Fr (bk v) (wc.alloc el) w1) : w1.heap[gb]? = some (.cells #[.slice b'.a b'.n b'.c, .slice i'.a i'.n i'.c, .slice r'.a r'.n r'.c, .slice t'.a t'.n t'.c, .int .i64 m] 74 (0, 0)) :=
  f.heap (blk_alloc h.new.blk) (own_ne (o.alloc el) (blk_alloc h.new.blk) ne)
theorem LM.hb' {w : World} {hb gb : Nat} {m : Int} {b i r t b' i' r' t' : Sl} {wc w1 : World} {el : Obj} (h : LM w hb gb m b i r t b' i' r' t' wc) {e : TypeId} {size n : Nat} {v : Value} {xs : List Value} (o : wc.ownsRow 0 e size v n xs) (ne : e ≠ 74)
    (f : Fr (bk v) (wc.alloc el) w1) : w1.heap[hb]? = some (.cells #[.slice b.a b.n b.c, .slice i.a i.n i.c, .slice r.a r.n r.c, .slice t.a t.n t.c, .int .i64 m] 74 (0, 0)) :=
  f.heap (blk_alloc h.old.blk) (own_ne (o.alloc el) (blk_alloc h.old.blk) ne)
theorem Fr.undrew {S : Nat → Prop} {a w : World} (h : Fr S a.drew w) : Fr S a w := ⟨h.os, h.tape, h.output, h.size, h.block⟩
theorem one_of (l : List Value) (h : l.all Value.oneCell' = true) : ∀ u ∈ l, u.oneCell' = true := fun u hu => List.all_eq_true.1 h u hu

theorem wrapI64n (m : Int) (h0 : 0 ≤ m) (h1 : m ≤ 20000000000000) : IntKind.i64.wrap (-m) = -m := by
  simp [IntKind.wrap_i64]; omega
theorem wrapU32 (m : Int) (h0 : 0 ≤ m) (h1 : m ≤ 20000000000000) : IntKind.u32.wrap m = m % 4294967296 := by
  simp [IntKind.wrap, IntKind.bits, IntKind.signed]
set_option maxRecDepth 100000 in
set_option maxHeartbeats 2000000 in
theorem longer_any (w : World) (hb : Nat) (m : Int) (b i r t : Sl) (h : HoldS w hb m b i r t) (h0 : 0 ≤ m) (h1 : m ≤ 20000000000000) (hs : small 16 b i r t) :
    Calls Tryz.prog 48 #[.pointer (some ⟨hb, 0, none⟩)] w fun e w' => e = .returned (.pointer (some ⟨w.heap.size, 0, none⟩)) ∧ ∃ gB cB gI cI gR cR gT cT,
      LM w hb w.heap.size m b i r t ⟨some ⟨gB, 0, none⟩, b.n + 1, cB, b.xs ++ [.int .u8 (sgn m b.n)]⟩ ⟨some ⟨gI, 0, none⟩, i.n + 1, cI, i.xs ++ mI m⟩ ⟨some ⟨gR, 0, none⟩, r.n + 1, cR, r.xs ++ mR m⟩ ⟨some ⟨gT, 0, none⟩, t.n + 1, cT, t.xs ++ mT m⟩ w' := by
  obtain ⟨bb, bi, br, bt⟩ := hs
  have hlt := h.lt
  have c0 : w.cell? ⟨hb, 0, none⟩ = some (.slice b.a b.n b.c) := cell_blk h.blk rfl
  have c4 : w.cell? ⟨hb, 4, none⟩ = some (.int .i64 m) := cell_blk h.blk rfl
  have hstart : ∀ nq, LM w hb w.heap.size m b i r t nilS nilS nilS nilS ((w.alloc (.cells #[.slice none 0 0, .slice none 0 0, .slice none 0 0, .slice none 0 0, .int .i64 m] 74)).drewN nq) := fun nq =>
    have f : Fr nob w ((w.alloc (.cells #[.slice none 0 0, .slice none 0 0, .slice none 0 0, .slice none 0 0, .int .i64 m] 74)).drewN nq) := ((Fr.refl _ w).alloc _).drewN nq
    ⟨h.fr f (fun h => h) (fun _ _ h => h), ⟨heap_alloc_new w _, World.ownsRow_nil _ _ _ _, World.ownsRow_nil _ _ _ _, World.ownsRow_nil _ _ _ _, World.ownsRow_nil _ _ _ _⟩, f.mono (fun _ _ h => h.elim), ⟨lie_nil _ _, lie_nil _ _, lie_nil _ _, lie_nil _ _⟩⟩
  obtain ⟨i0, hi, hz0, hz1, hz2⟩ := info_parts info_u8
  go_enter Tryz.func48, Tryz.ntmps48
  go_upto_region 2 with fail
  go_cut [4] (fun x wx => x = .int .u8 (sgn m b.n) ∧ LM w hb w.heap.size m b i r t nilS nilS nilS nilS wx)
  case first =>
    go_quiet ((go_at_call 44; exact Calls.quiet_of_same (sign_any _ _ _ (by omega) (by omega) (by omega) (by omega))))
    go_wp2_with fail
    go_meet
    exact ⟨rfl, hstart _⟩
  case rest =>
    obtain ⟨rfl, g1⟩ := hcut
    clear hstart c0 c4
    go_upto_region 3 with fail
    go_cut [] (fun wx => ∃ g c, LM w hb w.heap.size m b i r t ⟨some ⟨g, 0, none⟩, b.n + 1, c, b.xs ++ [.int .u8 (sgn m b.n)]⟩ nilS nilS nilS wx)
    case first =>
      have c0 : wc.cell? ⟨hb, 0, none⟩ = some (.slice b.a b.n b.c) := cell_blk g1.old.blk rfl
      go_wp2_with (at_builtin; refine wpList_append_keep _ rfl _ _ 32 rfl 5 i0 (.int .u8 0) 1 1 Tryz.underlying32 hi hz0 hz1 hz2 rfl (by decide) b.a b.n b.c b.xs rfl (g1.old.ob.alloc _) ⟨wc.heap.size, 0, none⟩ 1 1 [.int .u8 (sgn m b.n)] rfl rfl ?c1 ?c2 (by decide) ?c3 ?c4 (wc.heap.size + 1) (by simp) ?_)
      case c1 => exact World.news_of_block (heap_alloc_new wc _)
      case c2 => intro u hu; simp at hu; subst hu; rfl
      case c3 => unfold maxLen; omega
      case c4 => omega
      intro g cp w1 o' o f hat
      have g2 := g1.stepb (by omega) (Nat.le_refl _) o' o f hat
      have gk := g1.nb g1.old.ob (by decide) f
      have d0 : w1.cell? ⟨w.heap.size, 0, none⟩ = some (.slice none 0 0) := cell_blk gk rfl
      have e0 : w1.frozen? ⟨w.heap.size, 0, none⟩ = false := frozen_blk gk
      clear o' o f hat gk
      go_wp2
      go_meet
      exact ⟨_, _, g2⟩
    case rest =>
      obtain ⟨gB, cB, g2⟩ := hcut
      clear g1 hi hz0 hz1 hz2 i0
      obtain ⟨i1, hi, hz0, hz1, hz2⟩ := info_parts info_insn
      go_upto_region 4 with fail
      go_cut [] (fun wx => ∃ g c, LM w hb w.heap.size m b i r t ⟨some ⟨gB, 0, none⟩, b.n + 1, cB, b.xs ++ [.int .u8 (sgn m b.n)]⟩ ⟨some ⟨g, 0, none⟩, i.n + 1, c, i.xs ++ mI m⟩ nilS nilS wx)
      case first =>
        have c1 : wc.cell? ⟨hb, 1, none⟩ = some (.slice i.a i.n i.c) := cell_blk g2.old.blk rfl
        have c4 : wc.cell? ⟨hb, 4, none⟩ = some (.int .i64 m) := cell_blk g2.old.blk rfl
        have hne : w.heap.size ≠ hb := by omega
        have hwm := wrapU32 m h0 h1
        go_region_held3 (fun w' => w'.cell? ⟨hb, 1, none⟩ = some (.slice i.a i.n i.c) ∧ w'.cell? ⟨hb, 4, none⟩ = some (.int .i64 m)) (go_keep)
          ((refine step_append_keep _ rfl _ _ 30 rfl 29 i1 _ 4 8 Tryz.underlying30 hi hz0 hz1 hz2 rfl (by decide) i.a i.n i.c i.xs rfl (by exact g2.old.oi.alloc _) ⟨wc.heap.size, 0, none⟩ 1 1 (mI m) rfl rfl (by exact World.news_of_block (heap_alloc_new wc _)) (one_of _ rfl) (by decide) (by unfold maxLen; omega) (by omega) (wc.heap.size + 1) (by simp) ?_; intro g cp w1 o' o f0 hat; have f := f0.undrew; have q1 : w1.cell? ⟨hb, 1, none⟩ = some (.slice i.a i.n i.c) := cell_blk (g2.hb' g2.old.oi (by decide) f) rfl; have q4 : w1.cell? ⟨hb, 4, none⟩ = some (.int .i64 m) := cell_blk (g2.hb' g2.old.oi (by decide) f) rfl; have d1 : w1.cell? ⟨w.heap.size, 1, none⟩ = some (.slice none 0 0) := cell_blk (g2.nb g2.old.oi (by decide) f) rfl; have e1 : w1.frozen? ⟨w.heap.size, 1, none⟩ = false := frozen_blk (g2.nb g2.old.oi (by decide) f); have g3 := g2.stepi (by omega) (Nat.le_refl _) o' o f hat))
        go_wp2
        go_meet
        exact ⟨_, _, g3⟩
      case rest =>
        obtain ⟨gI, cI, g3⟩ := hcut
        clear g2 hi hz0 hz1 hz2 i1
        obtain ⟨i2, hi, hz0, hz1, hz2⟩ := info_parts info_rule
        go_upto_region 5 with fail
        go_cut [] (fun wx => ∃ g c, LM w hb w.heap.size m b i r t ⟨some ⟨gB, 0, none⟩, b.n + 1, cB, b.xs ++ [.int .u8 (sgn m b.n)]⟩ ⟨some ⟨gI, 0, none⟩, i.n + 1, cI, i.xs ++ mI m⟩ ⟨some ⟨g, 0, none⟩, r.n + 1, c, r.xs ++ mR m⟩ nilS wx)
        case first =>
          have c1 : wc.cell? ⟨hb, 2, none⟩ = some (.slice r.a r.n r.c) := cell_blk g3.old.blk rfl
          have c4 : wc.cell? ⟨hb, 4, none⟩ = some (.int .i64 m) := cell_blk g3.old.blk rfl
          have hne : w.heap.size ≠ hb := by omega
          have hwm := wrapU32 m h0 h1
          go_region_held3 (fun w' => w'.cell? ⟨hb, 2, none⟩ = some (.slice r.a r.n r.c) ∧ w'.cell? ⟨hb, 4, none⟩ = some (.int .i64 m)) (go_keep)
            ((refine step_append_keep _ rfl _ _ 36 rfl 35 i2 _ 3 40 Tryz.underlying36 hi hz0 hz1 hz2 rfl (by decide) r.a r.n r.c r.xs rfl (by exact g3.old.or.alloc _) ⟨wc.heap.size, 0, none⟩ 1 1 (mR m) rfl rfl (by exact World.news_of_block (heap_alloc_new wc _)) (one_of _ rfl) (by decide) (by unfold maxLen; omega) (by omega) (wc.heap.size + 1) (by simp) ?_; intro g cp w1 o' o f0 hat; have f := f0.undrew; have q1 : w1.cell? ⟨hb, 2, none⟩ = some (.slice r.a r.n r.c) := cell_blk (g3.hb' g3.old.or (by decide) f) rfl; have q4 : w1.cell? ⟨hb, 4, none⟩ = some (.int .i64 m) := cell_blk (g3.hb' g3.old.or (by decide) f) rfl; have d1 : w1.cell? ⟨w.heap.size, 2, none⟩ = some (.slice none 0 0) := cell_blk (g3.nb g3.old.or (by decide) f) rfl; have e1 : w1.frozen? ⟨w.heap.size, 2, none⟩ = false := frozen_blk (g3.nb g3.old.or (by decide) f); have g4 := g3.stepr (by omega) (Nat.le_refl _) o' o f hat))
          go_wp2
          go_meet
          exact ⟨_, _, g4⟩
        case rest =>
          obtain ⟨gR, cR, g4⟩ := hcut
          clear g3 hi hz0 hz1 hz2 i2
          obtain ⟨i3, hi, hz0, hz1, hz2⟩ := info_parts info_test
          go_upto_region 6 with fail
          go_cut [] (fun wx => ∃ g c, LM w hb w.heap.size m b i r t ⟨some ⟨gB, 0, none⟩, b.n + 1, cB, b.xs ++ [.int .u8 (sgn m b.n)]⟩ ⟨some ⟨gI, 0, none⟩, i.n + 1, cI, i.xs ++ mI m⟩ ⟨some ⟨gR, 0, none⟩, r.n + 1, cR, r.xs ++ mR m⟩ ⟨some ⟨g, 0, none⟩, t.n + 1, c, t.xs ++ mT m⟩ wx)
          case first =>
            have c1 : wc.cell? ⟨hb, 3, none⟩ = some (.slice t.a t.n t.c) := cell_blk g4.old.blk rfl
            have c4 : wc.cell? ⟨hb, 4, none⟩ = some (.int .i64 m) := cell_blk g4.old.blk rfl
            have hne : w.heap.size ≠ hb := by omega
            have hwm := wrapI64n m h0 h1
            go_region_held3 (fun w' => w'.cell? ⟨hb, 3, none⟩ = some (.slice t.a t.n t.c) ∧ w'.cell? ⟨hb, 4, none⟩ = some (.int .i64 m)) (go_keep)
              ((refine step_append_keep _ rfl _ _ 33 rfl 101 i3 _ 4 32 Tryz.underlying33 hi hz0 hz1 hz2 rfl (by decide) t.a t.n t.c t.xs rfl (by exact g4.old.ot.alloc _) ⟨wc.heap.size, 0, none⟩ 1 1 (mT m) rfl rfl (by exact World.news_of_block (heap_alloc_new wc _)) (one_of _ rfl) (by decide) (by unfold maxLen; omega) (by omega) (wc.heap.size + 1) (by simp) ?_; intro g cp w1 o' o f0 hat; have f := f0.undrew; have q1 : w1.cell? ⟨hb, 3, none⟩ = some (.slice t.a t.n t.c) := cell_blk (g4.hb' g4.old.ot (by decide) f) rfl; have q4 : w1.cell? ⟨hb, 4, none⟩ = some (.int .i64 m) := cell_blk (g4.hb' g4.old.ot (by decide) f) rfl; have d1 : w1.cell? ⟨w.heap.size, 3, none⟩ = some (.slice none 0 0) := cell_blk (g4.nb g4.old.ot (by decide) f) rfl; have e1 : w1.frozen? ⟨w.heap.size, 3, none⟩ = false := frozen_blk (g4.nb g4.old.ot (by decide) f); have g5 := g4.stept (by omega) (Nat.le_refl _) o' o f hat))
            go_wp2
            go_meet
            exact ⟨_, _, g5⟩
          case rest =>
            obtain ⟨gT, cT, g5⟩ := hcut
            clear g4 hi hz0 hz1 hz2 i3
            go_wp2
            go_ret
            exact ⟨rfl, gB, cB, gI, cI, gR, cR, gT, cT, g5⟩
#print axioms longer_any
end Go.Proofs.YtjgcfffepkmojaaGreat

namespace Go.Proofs.YtjgcfffepkmojaaGreat
open Go.RowKit
set_option linter.unusedVariables false

/-- Where two slices share a block, the first is the head of the second. -/
def PreS (size : Nat) (s s' : Sl) : Prop := ∀ x, bk (.slice s.a s.n s.c) x → bk (.slice s'.a s'.n s'.c) x → s.n ≤ s'.n ∧ s.c = s'.c ∧ s.xs = s'.xs.take (s.n * size)
theorem PreS.refl (size : Nat) (s : Sl) (h : s.xs.length = s.n * size) : PreS size s s := fun _ _ _ => ⟨Nat.le_refl _, rfl, by rw [List.take_of_length_le (by omega)]⟩
theorem PreS.apart {size : Nat} {s s' : Sl} (h : ∀ x, bk (.slice s.a s.n s.c) x → ¬ bk (.slice s'.a s'.n s'.c) x) : PreS size s s' := fun x h1 h2 => absurd h2 (h x h1)

theorem own_pre {S : Nat → Prop} {w w' : World} {e : TypeId} {size : Nat} {s s' : Sl} (h : Own w e size s.a s.n s.c s.xs) (h' : Own w' e size s'.a s'.n s'.c s'.xs) (f : Fr S w w')
    (hS : ∀ x, bk (.slice s.a s.n s.c) x → S x → bk (.slice s'.a s'.n s'.c) x) (p : PreS size s s') : Own w' e size s.a s.n s.c s.xs := by
  refine ⟨h.1, ?_⟩
  rcases h.2 with hn | ⟨g, cap, cur, hv, hb, hg, hnc, hcm, hcs, htake⟩
  · exact .inl hn
  · have hbk : bk (.slice s.a s.n s.c) g := by rw [hv]; simp [bk, Value.ownBlock]
    have hc : s.c = cap := by simp only [Value.slice.injEq] at hv; exact hv.2.2
    by_cases hg' : S g
    · have hb' := hS g hbk hg'
      obtain ⟨p1, p2, p3⟩ := p g hbk hb'
      rcases h'.2 with ⟨hn', _⟩ | ⟨g', cap', cur', hv', _, hg2, hnc', hcm', hcs', htake'⟩
      · rw [hn'] at hb'; simp [bk, Value.ownBlock] at hb'
      · have hc' : s'.c = cap' := by simp only [Value.slice.injEq] at hv'; exact hv'.2.2
        rw [hv'] at hb'
        simp only [bk, Value.ownBlock, Option.some.injEq] at hb'
        subst hb'
        refine .inr ⟨g', cap, cur', hv, hb, hg2, hnc, hcm, by rw [hcs', ← hc', ← p2, hc], ?_⟩
        rw [p3, ← htake', List.take_take, Nat.min_eq_left (Nat.mul_le_mul_right _ p1)]
    · exact .inr ⟨g, cap, cur, hv, hb, f.heap hg hg', hnc, hcm, hcs, htake⟩

theorem own_cap {w : World} {e : TypeId} {size : Nat} {s s' : Sl} (hsz : 0 < size) (h : Own w e size s.a s.n s.c s.xs) (h' : Own w e size s'.a s'.n s'.c s'.xs) {x : Nat} (hx : bk (.slice s.a s.n s.c) x) (hx' : bk (.slice s'.a s'.n s'.c) x) : s.c = s'.c := by
  rcases h.2 with ⟨hn, _⟩ | ⟨g, cap, cur, hv, _, hg, _, _, hcs, _⟩
  · rw [hn] at hx; simp [bk, Value.ownBlock] at hx
  rcases h'.2 with ⟨hn, _⟩ | ⟨g', cap', cur', hv', _, hg', _, _, hcs', _⟩
  · rw [hn] at hx'; simp [bk, Value.ownBlock] at hx'
  rw [hv] at hx; rw [hv'] at hx'
  simp only [bk, Value.ownBlock, Option.some.injEq] at hx hx'
  subst hx; subst hx'
  rw [hg] at hg'
  simp only [Option.some.injEq, Obj.cells.injEq] at hg'
  obtain ⟨rfl, _⟩ := hg'
  simp only [Value.slice.injEq] at hv hv'
  rw [hv.2.2, hv'.2.2]
  exact Nat.eq_of_mul_eq_mul_right hsz (hcs.symm.trans hcs')

theorem pre_ext {w w' : World} {e : TypeId} {size : Nat} {s p q : Sl} {y : List Value} (hsz : 0 < size) (h : PreS size s p) (hl : Lie w p q) (os : Own w e size s.a s.n s.c s.xs) (op : Own w' e size p.a p.n p.c p.xs) (oq : Own w' e size q.a q.n q.c q.xs)
    (hn : q.n = p.n + 1) (hx : q.xs = p.xs ++ y) : PreS size s q := fun x h1 h2 => by
  have hlt := own_lt os h1
  rcases hl x h2 with h3 | h3
  · obtain ⟨p1, p2, p3⟩ := h x h1 h3
    have hlen : s.n * size ≤ p.xs.length := by rw [op.1]; exact Nat.mul_le_mul_right _ p1
    refine ⟨by omega, p2.trans (own_cap hsz op oq h3 h2), ?_⟩
    rw [hx, List.take_append_of_le_length hlen]; exact p3
  · omega

/-- All its places are marked. -/
structure Mk (m : Int) (b i r t : Sl) : Prop where
  b : b.xs = mB m b.n
  i : i.xs = rep (mI m) i.n
  r : r.xs = rep (mR m) r.n
  t : t.xs = rep (mT m) t.n
abbrev Q4 := Sl → Sl → Sl → Sl → Prop
def anyQ : Q4 := fun _ _ _ _ => True
/-- Each of its slices is the head of the one that is named, where they share a block. -/
def preQ (b' i' r' t' : Sl) : Q4 := fun b i r t => PreS 1 b b' ∧ PreS 4 i i' ∧ PreS 3 r r' ∧ PreS 4 t t'
/-- A hold that reads as its owner wrote it; F: blocks that it may lie in. -/
def Marked (F : Nat → Prop) (Q : Q4) (w : World) (k : Nat) : Prop := ∃ m b i r t, HoldS w k m b i r t ∧ Mk m b i r t ∧ 0 ≤ m ∧ m ≤ 20000000000000 ∧ small 16 b i r t ∧ F k ∧ (∀ x, sls b i r t x → F x) ∧ Q b i r t
/-- The world of the script. -/
structure Inv (w : World) (B wb : Nat) (ps : Value) (hs : List Nat) (F : Nat → Prop) (Q : Q4) (row : Sl) : Prop where
  blk : w.heap[wb]? = some (.cells #[ps, .slice row.a row.n row.c] 46 (0, 0))
  own : Own w 64 1 row.a row.n row.c row.xs
  xs : row.xs = hs.map fun k => Value.pointer (some ⟨k, 0, none⟩)
  n : row.n = hs.length
  all : ∀ k ∈ hs, Marked F Q w k
  lob : B ≤ wb
  lor : ∀ x, bk (.slice row.a row.n row.c) x → B ≤ x

theorem Marked.mono {F G : Nat → Prop} {Q R : Q4} {w : World} {k : Nat} (h : Marked F Q w k) (hfg : ∀ x, x < w.heap.size → F x → G x) (hq : ∀ b i r t, (∀ x, sls b i r t x → F x) → Q b i r t → R b i r t) : Marked G R w k := by
  obtain ⟨m, b, i, r, t, h1, h2, h3, h4, h5, h6, h7, h8⟩ := h
  exact ⟨m, b, i, r, t, h1, h2, h3, h4, h5, hfg _ h1.lt h6, fun x hx => hfg _ (h1.sls_lt hx) (h7 x hx), hq _ _ _ _ h7 h8⟩
theorem Marked.fr {F S : Nat → Prop} {Q : Q4} {w w' : World} {k : Nat} (h : Marked F Q w k) (f : Fr S w w') (hS : ∀ x, F x → ¬ S x) : Marked F Q w' k := by
  obtain ⟨m, b, i, r, t, h1, h2, h3, h4, h5, h6, h7, h8⟩ := h
  exact ⟨m, b, i, r, t, h1.fr f (hS _ h6) (fun x hx => hS x (h7 x hx)), h2, h3, h4, h5, h6, h7, h8⟩
theorem sls_ty {w : World} {k x : Nat} {m : Int} {b i r t : Sl} {c : Array Value} {e : TypeId} {f : Nat × Nat} (h1 : HoldS w k m b i r t) (hy : w.heap[x]? = some (.cells c e f)) (n1 : 5 ≠ e) (n2 : 29 ≠ e) (n3 : 35 ≠ e) (n4 : 101 ≠ e) : ¬ sls b i r t x := by
  intro hx
  rcases hx with hx | hx | hx | hx
  · exact own_ne h1.ob hy n1 hx
  · exact own_ne h1.oi hy n2 hx
  · exact own_ne h1.or hy n3 hx
  · exact own_ne h1.ot hy n4 hx
/-- Blocks of other types than a hold's are not a hold's. -/
theorem Marked.frT {F S : Nat → Prop} {Q : Q4} {w w' : World} {k : Nat} (h : Marked F Q w k) (f : Fr S w w') (hS : ∀ x, S x → (∃ c f, w.heap[x]? = some (.cells c 46 f)) ∨ (∃ c f, w.heap[x]? = some (.cells c 64 f)) ∨ w.heap.size ≤ x) : Marked F Q w' k := by
  obtain ⟨m, b, i, r, t, h1, h2, h3, h4, h5, h6, h7, h8⟩ := h
  refine ⟨m, b, i, r, t, h1.fr f ?_ ?_, h2, h3, h4, h5, h6, h7, h8⟩
  · intro hs
    have hb := h1.blk
    rcases hS _ hs with ⟨c, g, hx⟩ | ⟨c, g, hx⟩ | hx
    · rw [hb] at hx; simp at hx
    · rw [hb] at hx; simp at hx
    · have := h1.lt; omega
  · intro x hx hs
    have hlt := h1.sls_lt hx
    rcases hS _ hs with ⟨c, g, hy⟩ | ⟨c, g, hy⟩ | hy
    · exact sls_ty h1 hy (by decide) (by decide) (by decide) (by decide) hx
    · exact sls_ty h1 hy (by decide) (by decide) (by decide) (by decide) hx
    · omega

section
variable {w : World} {B wb : Nat} {ps : Value} {hs : List Nat} {F : Nat → Prop} {Q : Q4} {row : Sl}
theorem Inv.row_ty (h : Inv w B wb ps hs F Q row) {x : Nat} (hx : bk (.slice row.a row.n row.c) x) : ∃ c f, w.heap[x]? = some (.cells c 64 f) := by
  rcases h.own.2 with ⟨hn, _⟩ | ⟨g, cap, cur, hv, _, hg, _⟩
  · rw [hn] at hx; simp [bk, Value.ownBlock] at hx
  · rw [hv] at hx; simp only [bk, Value.ownBlock, Option.some.injEq] at hx; subst hx; exact ⟨_, _, hg⟩
theorem Inv.mono {G : Nat → Prop} {R : Q4} (h : Inv w B wb ps hs F Q row) (hfg : ∀ x, x < w.heap.size → F x → G x) (hq : ∀ b i r t, (∀ x, sls b i r t x → F x) → Q b i r t → R b i r t) : Inv w B wb ps hs G R row :=
  ⟨h.blk, h.own, h.xs, h.n, fun k hk => (h.all k hk).mono hfg hq, h.lob, h.lor⟩
theorem Inv.fr {S : Nat → Prop} {w' : World} (h : Inv w B wb ps hs F Q row) (f : Fr S w w') (h1 : ¬ S wb) (h2 : ∀ x, bk (.slice row.a row.n row.c) x → ¬ S x) (h3 : ∀ x, F x → ¬ S x) : Inv w' B wb ps hs F Q row :=
  ⟨f.heap h.blk h1, own_fr h.own f h2, h.xs, h.n, fun k hk => (h.all k hk).fr f h3, h.lob, h.lor⟩
theorem Inv.drew (h : Inv w B wb ps hs F Q row) : Inv w.drew B wb ps hs F Q row := h.fr ((Fr.refl nob w).drew) (fun h => h) (fun _ _ h => h) (fun _ _ h => h)
/-- One hold more in the row. -/
theorem Inv.push {w3 : World} {el : Obj} {hb g c' : Nat} (h : Inv w B wb ps hs F Q row) (mk : Marked F Q w hb) (o' : Own w3 64 1 (some ⟨g, 0, none⟩) (row.n + 1) c' (row.xs ++ [.pointer (some ⟨hb, 0, none⟩)]))
    (f : Fr (bk (.slice row.a row.n row.c)) (w.alloc el) w3) (hat : bk (.slice row.a row.n row.c) g ∨ g = w.heap.size + 1) (hB : B ≤ w.heap.size) :
    Inv (w3.setCell ⟨wb, 1, none⟩ (.slice (some ⟨g, 0, none⟩) (row.n + 1) c')) B wb ps (hs ++ [hb]) F Q ⟨some ⟨g, 0, none⟩, row.n + 1, c', row.xs ++ [.pointer (some ⟨hb, 0, none⟩)]⟩ := by
  have wk := f.heap (blk_alloc h.blk) (own_ne (h.own.alloc el) (blk_alloc h.blk) (by decide))
  have F2 : Fr (fun x => bk (.slice row.a row.n row.c) x ∨ x = wb) w (w3.setCell ⟨wb, 1, none⟩ (.slice (some ⟨g, 0, none⟩) (row.n + 1) c')) :=
    (((Fr.refl _ w).alloc el).step f (fun k _ hk => .inl hk)).step (fr_set _ _ _ _) (fun k _ hk => .inr hk)
  have hty : ∀ x, (bk (.slice row.a row.n row.c) x ∨ x = wb) → (∃ c f, w.heap[x]? = some (.cells c 46 f)) ∨ (∃ c f, w.heap[x]? = some (.cells c 64 f)) ∨ w.heap.size ≤ x := fun x hx => by
    rcases hx with hx | hx
    · exact .inr (.inl (h.row_ty hx))
    · subst hx; exact .inl ⟨_, _, h.blk⟩
  refine ⟨heap_set wk, own_put o' wk (by decide), by rw [h.xs]; simp, by simp [h.n], ?_, h.lob, ?_⟩
  · intro k hk
    rcases List.mem_append.1 hk with hk | hk
    · exact (h.all k hk).frT F2 hty
    · simp at hk; subst hk; exact mk.frT F2 hty
  · intro x hx
    simp only [bk, Value.ownBlock, Option.some.injEq] at hx
    subst hx
    rcases hat with hat | hat
    · exact h.lor _ hat
    · omega
end

section
variable {w w1 : World} {B wb gb gb2 : Nat} {m : Int} {ps : Value} {hs : List Nat} {F : Nat → Prop} {row : Sl} {b i r t b' i' r' t' : Sl} {yb yi yr yt : List Value}
theorem Inv.longer (h : Inv w B wb ps hs F (preQ b i r t) row) (g : HoldS w gb m b i r t) (L : LM w gb gb2 m b i r t b' i' r' t' w1)
    (nb : b'.n = b.n + 1) (ni : i'.n = i.n + 1) (nr : r'.n = r.n + 1) (nt : t'.n = t.n + 1) (eb : b'.xs = b.xs ++ yb) (ei : i'.xs = i.xs ++ yi) (er : r'.xs = r.xs ++ yr) (et : t'.xs = t.xs ++ yt) :
    Inv w1 B wb ps hs F (preQ b' i' r' t') row := by
  refine ⟨L.fr.heap h.blk (sls_ty g h.blk (by decide) (by decide) (by decide) (by decide)), own_fr h.own L.fr (fun x hx => ?_), h.xs, h.n, fun k hk => ?_, h.lob, h.lor⟩
  · obtain ⟨c, f, hy⟩ := h.row_ty hx
    exact sls_ty g hy (by decide) (by decide) (by decide) (by decide)
  · obtain ⟨m2, b2, i2, r2, t2, h1, h2, h3, h4, h5, h6, h7, pb, pi, pr, pt⟩ := h.all k hk
    have hob := own_pre h1.ob L.old.ob L.fr (fun x hx hs => by
      rcases hs with hs | hs | hs | hs
      · exact hs
      · exact absurd hs (own_apart h1.ob g.oi (by decide) x hx)
      · exact absurd hs (own_apart h1.ob g.or (by decide) x hx)
      · exact absurd hs (own_apart h1.ob g.ot (by decide) x hx)) pb
    have hoi := own_pre h1.oi L.old.oi L.fr (fun x hx hs => by
      rcases hs with hs | hs | hs | hs
      · exact absurd hs (own_apart h1.oi g.ob (by decide) x hx)
      · exact hs
      · exact absurd hs (own_apart h1.oi g.or (by decide) x hx)
      · exact absurd hs (own_apart h1.oi g.ot (by decide) x hx)) pi
    have hor := own_pre h1.or L.old.or L.fr (fun x hx hs => by
      rcases hs with hs | hs | hs | hs
      · exact absurd hs (own_apart h1.or g.ob (by decide) x hx)
      · exact absurd hs (own_apart h1.or g.oi (by decide) x hx)
      · exact hs
      · exact absurd hs (own_apart h1.or g.ot (by decide) x hx)) pr
    have hot := own_pre h1.ot L.old.ot L.fr (fun x hx hs => by
      rcases hs with hs | hs | hs | hs
      · exact absurd hs (own_apart h1.ot g.ob (by decide) x hx)
      · exact absurd hs (own_apart h1.ot g.oi (by decide) x hx)
      · exact absurd hs (own_apart h1.ot g.or (by decide) x hx)
      · exact hs) pt
    exact ⟨m2, b2, i2, r2, t2, ⟨L.fr.heap h1.blk (sls_ty g h1.blk (by decide) (by decide) (by decide) (by decide)), hob, hoi, hor, hot⟩, h2, h3, h4, h5, h6, h7,
      pre_ext (by decide) pb L.lie.1 h1.ob L.old.ob L.new.ob nb eb, pre_ext (by decide) pi L.lie.2.1 h1.oi L.old.oi L.new.oi ni ei, pre_ext (by decide) pr L.lie.2.2.1 h1.or L.old.or L.new.or nr er, pre_ext (by decide) pt L.lie.2.2.2 h1.ot L.old.ot L.new.ot nt et⟩
end

/-- 'marks', of a hold. -/
theorem marks_hold (w : World) (hb : Nat) (m : Int) (b i r t : Sl) (h : HoldS w hb m b i r t) (h0 : 0 ≤ m) (h1 : m ≤ 20000000000000) (hs : small 16 b i r t) :
    Calls Tryz.prog 47 #[.pointer (some ⟨hb, 0, none⟩)] w fun e w' => e = .returned (.tuple #[]) ∧
      HoldS w' hb m ⟨b.a, b.n, b.c, mB m b.n⟩ ⟨i.a, i.n, i.c, rep (mI m) i.n⟩ ⟨r.a, r.n, r.c, rep (mR m) r.n⟩ ⟨t.a, t.n, t.c, rep (mT m) t.n⟩ ∧ Fr (sls b i r t) w w' := by
  refine (marks_any hb m w b.a i.a r.a t.a b.n b.c i.n i.c r.n r.c t.n t.c b.xs i.xs r.xs t.xs h.blk h.ob h.oi h.or h.ot h0 h1 (by have := hs.1; omega) (by have := hs.2.1; omega) (by have := hs.2.2.1; omega) (by have := hs.2.2.2; omega)).mono ?_
  rintro e w' ⟨he, o1, o2, o3, o4, f⟩
  exact ⟨he, ⟨f.heap h.blk (sls_ty h h.blk (by decide) (by decide) (by decide) (by decide)), o1, o2, o3, o4⟩, f⟩
end Go.Proofs.YtjgcfffepkmojaaGreat

namespace Go.Proofs.YtjgcfffepkmojaaGreat
open Go.RowKit
set_option linter.unusedVariables false

theorem info_holdp : (Tryz.prog.info? 64).map (fun i => (i.zero, i.size, i.bytes)) = some (some (.pointer none), 1, 8) := by kernel_rfl

/-- Where the holds may lie behind 'keep'. -/
def KF (F : Nat → Prop) (w : World) (hb : Nat) (b i r t : Sl) : Nat → Prop := fun x => F x ∨ x = hb ∨ sls b i r t x ∨ w.heap.size ≤ x
/-- What 'keep' may write. -/
def KS (wb : Nat) (row : Sl) (hb : Nat) (b i r t : Sl) : Nat → Prop := fun x => x = wb ∨ bk (.slice row.a row.n row.c) x ∨ x = hb ∨ sls b i r t x

/-- The loop of 'keep': n longer ones are made. -/
structure KR (w : World) (B wb : Nat) (ps : Value) (hs : List Nat) (F : Nat → Prop) (row : Sl) (hb : Nat) (b i r t : Sl) (m : Int) (n gb : Nat) (hs' : List Nat) (row' b' i' r' t' : Sl) (wr : World) : Prop where
  inv : Inv wr B wb ps hs' (KF F w hb b i r t) (preQ b' i' r' t') row'
  hold : HoldS wr gb m b' i' r' t'
  mkd : Mk m b' i' r' t'
  sm : small n b' i' r' t'
  len : hs'.length = hs.length + 1 + n
  fr : Fr (KS wb row hb b i r t) w wr
  rlie : ∀ x, bk (.slice row'.a row'.n row'.c) x → bk (.slice row.a row.n row.c) x ∨ w.heap.size ≤ x
  slie : ∀ x, sls b' i' r' t' x → sls b i r t x ∨ w.heap.size ≤ x

section
variable {w : World} {B wb : Nat} {ps : Value} {hs : List Nat} {F : Nat → Prop} {row : Sl} {hb : Nat} {b i r t : Sl} {m m0 : Int}

theorem own_xs {w : World} {e : TypeId} {size : Nat} {s : Sl} (h : Own w e size s.a s.n s.c s.xs) : PreS size s s := PreS.refl size s h.1

/-- Behind the mark and 'marks'. -/
theorem keep_marked {w2 : World} (hI : Inv w B wb ps hs F anyQ row) (hh : HoldS w hb m0 b i r t) (ha : ¬ F hb) (hb' : ∀ x, sls b i r t x → ¬ F x) (h0 : 0 ≤ m) (h1 : m ≤ 20000000000000) (hsm : small 0 b i r t)
    (h2 : HoldS w2 hb m ⟨b.a, b.n, b.c, mB m b.n⟩ ⟨i.a, i.n, i.c, rep (mI m) i.n⟩ ⟨r.a, r.n, r.c, rep (mR m) r.n⟩ ⟨t.a, t.n, t.c, rep (mT m) t.n⟩) (f : Fr (sls b i r t) (w.setCell ⟨hb, 4, none⟩ (.int .i64 m)) w2) :
    Inv w2 B wb ps hs (KF F w hb b i r t) (preQ ⟨b.a, b.n, b.c, mB m b.n⟩ ⟨i.a, i.n, i.c, rep (mI m) i.n⟩ ⟨r.a, r.n, r.c, rep (mR m) r.n⟩ ⟨t.a, t.n, t.c, rep (mT m) t.n⟩) row ∧
    Marked (KF F w hb b i r t) (preQ ⟨b.a, b.n, b.c, mB m b.n⟩ ⟨i.a, i.n, i.c, rep (mI m) i.n⟩ ⟨r.a, r.n, r.c, rep (mR m) r.n⟩ ⟨t.a, t.n, t.c, rep (mT m) t.n⟩) w2 hb ∧
    Fr (KS wb row hb b i r t) w w2 := by
  have F1 : Fr (fun x => x = hb ∨ sls b i r t x) w w2 := ((fr_set w hb 4 (.int .i64 m)).mono (fun x _ hx => .inl hx)).step f (fun x _ hx => .inr hx)
  have hI2 : Inv w2 B wb ps hs F anyQ row := hI.fr F1
    (fun h => by
      rcases h with h | h
      · have := hI.blk; rw [h, hh.blk] at this; simp at this
      · exact sls_ty hh hI.blk (by decide) (by decide) (by decide) (by decide) h)
    (fun x hx h => by
      obtain ⟨c, g, hy⟩ := hI.row_ty hx
      rcases h with h | h
      · rw [h, hh.blk] at hy; simp at hy
      · exact sls_ty hh hy (by decide) (by decide) (by decide) (by decide) h)
    (fun x hx h => by
      rcases h with h | h
      · exact ha (h ▸ hx)
      · exact hb' x h hx)
  refine ⟨hI2.mono (fun x _ hx => .inl hx) ?_, ?_, F1.mono (fun x _ hx => .inr (.inr hx))⟩
  · intro b2 i2 r2 t2 hF _
    refine ⟨PreS.apart (fun x h1 h2 => hb' x (.inl h2) (hF x (.inl h1))), PreS.apart (fun x h1 h2 => hb' x (.inr (.inl h2)) (hF x (.inr (.inl h1)))),
      PreS.apart (fun x h1 h2 => hb' x (.inr (.inr (.inl h2))) (hF x (.inr (.inr (.inl h1))))), PreS.apart (fun x h1 h2 => hb' x (.inr (.inr (.inr h2))) (hF x (.inr (.inr (.inr h1)))))⟩
  · obtain ⟨s1, s2, s3, s4⟩ := hsm
    exact ⟨m, _, _, _, _, h2, ⟨rfl, rfl, rfl, rfl⟩, h0, h1, ⟨by show b.n ≤ _; omega, by show i.n ≤ _; omega, by show r.n ≤ _; omega, by show t.n ≤ _; omega⟩, .inr (.inl rfl), fun x hx => .inr (.inr (.inl hx)), own_xs h2.ob, own_xs h2.oi, own_xs h2.or, own_xs h2.ot⟩

theorem push_fr {Q : Q4} {w3 : World} {el : Obj} {g c' : Nat} (h : Inv w B wb ps hs F Q row) (f : Fr (bk (.slice row.a row.n row.c)) (w.alloc el) w3) :
    Fr (fun x => bk (.slice row.a row.n row.c) x ∨ x = wb) w (w3.setCell ⟨wb, 1, none⟩ (.slice (some ⟨g, 0, none⟩) (row.n + 1) c')) :=
  (((Fr.refl _ w).alloc el).step f (fun k _ hk => .inl hk)).step (fr_set _ _ _ _) (fun k _ hk => .inr hk)
theorem Inv.wk {Q : Q4} {w3 : World} {el : Obj} (h : Inv w B wb ps hs F Q row) (f : Fr (bk (.slice row.a row.n row.c)) (w.alloc el) w3) : w3.heap[wb]? = some (.cells #[ps, .slice row.a row.n row.c] 46 (0, 0)) :=
  f.heap (blk_alloc h.blk) (own_ne (h.own.alloc el) (blk_alloc h.blk) (by decide))
theorem hold_push {Q : Q4} {w3 : World} {el : Obj} {g c' gb : Nat} {b' i' r' t' : Sl} (h : Inv w B wb ps hs F Q row) (f : Fr (bk (.slice row.a row.n row.c)) (w.alloc el) w3) (hh : HoldS w gb m b' i' r' t') :
    HoldS (w3.setCell ⟨wb, 1, none⟩ (.slice (some ⟨g, 0, none⟩) (row.n + 1) c')) gb m b' i' r' t' := by
  refine hh.fr (push_fr h f) ?_ ?_
  · intro hx
    rcases hx with hx | hx
    · obtain ⟨c, f, hy⟩ := h.row_ty hx
      rw [hh.blk] at hy; simp at hy
    · have := h.blk; rw [← hx, hh.blk] at this; simp at this
  · intro x hx hx'
    rcases hx' with hx' | hx'
    · obtain ⟨c, f, hy⟩ := h.row_ty hx'
      exact sls_ty hh hy (by decide) (by decide) (by decide) (by decide) hx
    · exact sls_ty hh (by rw [hx']; exact h.blk) (by decide) (by decide) (by decide) (by decide) hx

theorem KR.start {w2 w3 : World} {el : Obj} {g c' : Nat} (hI : Inv w B wb ps hs F anyQ row) (hh : HoldS w hb m0 b i r t) (ha : ¬ F hb) (hb' : ∀ x, sls b i r t x → ¬ F x) (hB : B ≤ w.heap.size) (h0 : 0 ≤ m) (h1 : m ≤ 20000000000000) (hsm : small 0 b i r t)
    (h2 : HoldS w2 hb m ⟨b.a, b.n, b.c, mB m b.n⟩ ⟨i.a, i.n, i.c, rep (mI m) i.n⟩ ⟨r.a, r.n, r.c, rep (mR m) r.n⟩ ⟨t.a, t.n, t.c, rep (mT m) t.n⟩) (f : Fr (sls b i r t) (w.setCell ⟨hb, 4, none⟩ (.int .i64 m)) w2)
    (o' : Own w3 64 1 (some ⟨g, 0, none⟩) (row.n + 1) c' (row.xs ++ [.pointer (some ⟨hb, 0, none⟩)])) (f3 : Fr (bk (.slice row.a row.n row.c)) (w2.alloc el) w3) (hat : bk (.slice row.a row.n row.c) g ∨ g = w2.heap.size + 1) :
    KR w B wb ps hs F row hb b i r t m 0 hb (hs ++ [hb]) ⟨some ⟨g, 0, none⟩, row.n + 1, c', row.xs ++ [.pointer (some ⟨hb, 0, none⟩)]⟩ ⟨b.a, b.n, b.c, mB m b.n⟩ ⟨i.a, i.n, i.c, rep (mI m) i.n⟩ ⟨r.a, r.n, r.c, rep (mR m) r.n⟩ ⟨t.a, t.n, t.c, rep (mT m) t.n⟩
      (w3.setCell ⟨wb, 1, none⟩ (.slice (some ⟨g, 0, none⟩) (row.n + 1) c')) := by
  obtain ⟨k1, k2, k3⟩ := keep_marked hI hh ha hb' h0 h1 hsm h2 f
  have hsz := k3.size
  refine ⟨k1.push k2 o' f3 hat (by omega), hold_push k1 f3 h2, ⟨rfl, rfl, rfl, rfl⟩, ⟨by have := hsm.1; show b.n ≤ _; omega, by have := hsm.2.1; show i.n ≤ _; omega, by have := hsm.2.2.1; show r.n ≤ _; omega, by have := hsm.2.2.2; show t.n ≤ _; omega⟩, by simp, ?_, ?_, fun x hx => .inl hx⟩
  · exact k3.step (push_fr k1 f3) (fun x _ hx => by
      rcases hx with hx | hx
      · exact .inr (.inl hx)
      · exact .inl hx)
  · intro x hx
    simp only [bk, Value.ownBlock, Option.some.injEq] at hx
    subst hx
    rcases hat with hat | hat
    · exact .inl hat
    · exact .inr (by omega)

theorem KR.next {wr w1 w3 : World} {el : Obj} {g c' n gb : Nat} {hs' : List Nat} {row' b' i' r' t' b2 i2 r2 t2 : Sl} (k : KR w B wb ps hs F row hb b i r t m n gb hs' row' b' i' r' t' wr) (hB : B ≤ w.heap.size) (hn : n < 3) (h0 : 0 ≤ m) (h1 : m ≤ 20000000000000)
    (L : LM wr gb wr.heap.size m b' i' r' t' b2 i2 r2 t2 w1) (nb : b2.n = b'.n + 1) (ni : i2.n = i'.n + 1) (nr : r2.n = r'.n + 1) (nt : t2.n = t'.n + 1) (eb : b2.xs = b'.xs ++ [.int .u8 (sgn m b'.n)]) (ei : i2.xs = i'.xs ++ mI m) (er : r2.xs = r'.xs ++ mR m) (et : t2.xs = t'.xs ++ mT m)
    (o' : Own w3 64 1 (some ⟨g, 0, none⟩) (row'.n + 1) c' (row'.xs ++ [.pointer (some ⟨wr.heap.size, 0, none⟩)])) (f3 : Fr (bk (.slice row'.a row'.n row'.c)) (w1.alloc el) w3) (hat : bk (.slice row'.a row'.n row'.c) g ∨ g = w1.heap.size + 1) :
    KR w B wb ps hs F row hb b i r t m (n + 1) wr.heap.size (hs' ++ [wr.heap.size]) ⟨some ⟨g, 0, none⟩, row'.n + 1, c', row'.xs ++ [.pointer (some ⟨wr.heap.size, 0, none⟩)]⟩ b2 i2 r2 t2
      (w3.setCell ⟨wb, 1, none⟩ (.slice (some ⟨g, 0, none⟩) (row'.n + 1) c')) := by
  have hsz := k.fr.size
  have hsz1 := L.fr.size
  have J := k.inv.longer k.hold L nb ni nr nt eb ei er et
  have mk2 : Mk m b2 i2 r2 t2 := ⟨by rw [eb, nb, mB_succ, k.mkd.b], by rw [ei, ni, k.mkd.i]; rfl, by rw [er, nr, k.mkd.r]; rfl, by rw [et, nt, k.mkd.t]; rfl⟩
  obtain ⟨s1, s2, s3, s4⟩ := k.sm
  have sl2 : ∀ x, sls b2 i2 r2 t2 x → sls b i r t x ∨ w.heap.size ≤ x := by
    intro x hx
    have : sls b' i' r' t' x ∨ wr.heap.size ≤ x := by
      rcases hx with hx | hx | hx | hx
      · exact (L.lie.1 x hx).elim (fun h => .inl (.inl h)) .inr
      · exact (L.lie.2.1 x hx).elim (fun h => .inl (.inr (.inl h))) .inr
      · exact (L.lie.2.2.1 x hx).elim (fun h => .inl (.inr (.inr (.inl h)))) .inr
      · exact (L.lie.2.2.2 x hx).elim (fun h => .inl (.inr (.inr (.inr h)))) .inr
    rcases this with h | h
    · exact k.slie x h
    · exact .inr (by omega)
  have M : Marked (KF F w hb b i r t) (preQ b2 i2 r2 t2) w1 wr.heap.size :=
    ⟨m, b2, i2, r2, t2, L.new, mk2, h0, h1, ⟨by omega, by omega, by omega, by omega⟩, .inr (.inr (.inr hsz)), fun x hx => (sl2 x hx).elim (fun h => .inr (.inr (.inl h))) (fun h => .inr (.inr (.inr h))), own_xs L.new.ob, own_xs L.new.oi, own_xs L.new.or, own_xs L.new.ot⟩
  refine ⟨J.push M o' f3 hat (by omega), hold_push J f3 L.new, mk2, ⟨by omega, by omega, by omega, by omega⟩, by simp [k.len]; omega, ?_, ?_, sl2⟩
  · refine (k.fr.step L.fr (fun x hx h => ?_)).step (push_fr J f3) (fun x hx h => ?_)
    · rcases k.slie x h with h | h
      · exact .inr (.inr (.inr h))
      · omega
    · rcases h with h | h
      · rcases k.rlie x h with h | h
        · exact .inr (.inl h)
        · omega
      · exact .inl h
  · intro x hx
    simp only [bk, Value.ownBlock, Option.some.injEq] at hx
    subst hx
    rcases hat with hat | hat
    · exact k.rlie _ hat
    · exact .inr (by omega)
end

set_option maxRecDepth 100000 in
set_option maxHeartbeats 2000000 in
theorem keep_any (w : World) (B wb : Nat) (ps : Value) (hs : List Nat) (F : Nat → Prop) (row : Sl) (hb : Nat) (m0 : Int) (b i r t : Sl) (hI : Inv w B wb ps hs F anyQ row) (hh : HoldS w hb m0 b i r t)
    (ha : ¬ F hb) (hb' : ∀ x, sls b i r t x → ¬ F x) (hB : B ≤ w.heap.size) (hlen : hs.length ≤ 10000000000000) (hsm : small 0 b i r t) :
    Calls Tryz.prog 27 #[.pointer (some ⟨wb, 0, none⟩), .pointer (some ⟨hb, 0, none⟩)] w fun e w' => e = .returned (.tuple #[]) ∧
      ∃ hs' row', Inv w' B wb ps hs' (KF F w hb b i r t) anyQ row' ∧ hs'.length = hs.length + 4 ∧ Fr (KS wb row hb b i r t) w w' := by
  have hrn : row.n ≤ 10000000000000 := by rw [hI.n]; exact hlen
  have c1 : w.cell? ⟨wb, 1, none⟩ = some (.slice row.a row.n row.c) := cell_blk hI.blk rfl
  have d4 : w.cell? ⟨hb, 4, none⟩ = some (.int .i64 m0) := cell_blk hh.blk rfl
  have e4 : w.frozen? ⟨hb, 4, none⟩ = false := frozen_blk hh.blk
  obtain ⟨m, hm⟩ : ∃ m : Int, m = (row.n : Int) + 1 := ⟨_, rfl⟩
  have hne : wb ≠ hb := fun e => by have := hI.blk; rw [e, hh.blk] at this; simp at this
  have h1 : HoldS (w.setCell ⟨hb, 4, none⟩ (.int .i64 m)) hb m b i r t := ⟨heap_set hh.blk, own_put hh.ob hh.blk (by decide), own_put hh.oi hh.blk (by decide), own_put hh.or hh.blk (by decide), own_put hh.ot hh.blk (by decide)⟩
  have hsm' : small 16 b i r t := ⟨by have := hsm.1; omega, by have := hsm.2.1; omega, by have := hsm.2.2.1; omega, by have := hsm.2.2.2; omega⟩
  obtain ⟨i0, hi, hz0, hz1, hz2⟩ := info_parts info_holdp
  subst hm
  go_enter Tryz.func27, Tryz.ntmps27
  go_wp2_with fail
  go_outline
  refine (marks_hold _ hb _ b i r t h1 (by omega) (by omega) hsm').mono ?_
  rintro e w2 ⟨rfl, h2, f2⟩
  obtain ⟨k1, k2, k3⟩ := keep_marked hI hh ha hb' (by omega) (by omega) hsm h2 f2
  have c1' : w2.cell? ⟨wb, 1, none⟩ = some (.slice row.a row.n row.c) := cell_blk k1.blk rfl
  clear c1 d4 e4 h1
  go_wp2_with (at_builtin; refine wpList_append_keep _ rfl _ _ 44 rfl 64 i0 (.pointer none) 1 8 Tryz.underlying44 hi hz0 hz1 hz2 rfl (by decide) row.a row.n row.c row.xs rfl (k1.own.alloc _) ⟨w2.heap.size, 0, none⟩ 1 1 [.pointer (some ⟨hb, 0, none⟩)] rfl rfl ?c1 ?c2 (by decide) ?c3 ?c4 (w2.heap.size + 1) (by simp) ?_)
  case c1 => exact World.news_of_block (heap_alloc_new w2 _)
  case c2 => intro u hu; simp at hu; subst hu; rfl
  case c3 => unfold maxLen; omega
  case c4 => omega
  intro g cp w3 o' o f3 hat
  have K0 := KR.start hI hh ha hb' hB (by omega) (by omega) hsm h2 f2 o' f3 hat
  have wk := k1.wk f3
  have d1 : w3.cell? ⟨wb, 1, none⟩ = some (.slice row.a row.n row.c) := cell_blk wk rfl
  have e1 : w3.frozen? ⟨wb, 1, none⟩ = false := frozen_blk wk
  clear o' o f3 hat wk k1 k2 k3 c1' h2 f2
  go_wp2_with fail
  go_loopw [4, 5] (fun x y wr => ∃ n gb hs' row' b' i' r' t', n ≤ 3 ∧ x = .pointer (some ⟨gb, 0, none⟩) ∧ y = .int .i64 (n : Nat) ∧ KR w B wb ps hs F row hb b i r t ((row.n : Int) + 1) n gb hs' row' b' i' r' t' wr) (fun _ y _ => 3 - (intOf y).toNat)
  case atStart => exact ⟨0, _, _, _, _, _, _, _, by decide, rfl, rfl, K0⟩
  case round =>
    clear K0 d1 e1
    obtain ⟨n, gb, hs', row', b', i', r', t', hn, rfl, rfl, K⟩ := hrel
    have hln : row'.n ≤ 10000000000004 := by rw [K.inv.n, K.len]; omega
    by_cases hlt : n < 3
    · have hsK := K.sm
      go_wp2_with fail
      refine (longer_any _ gb _ b' i' r' t' K.hold (by omega) (by omega) ⟨by have := hsK.1; omega, by have := hsK.2.1; omega, by have := hsK.2.2.1; omega, by have := hsK.2.2.2; omega⟩).mono ?_
      rintro e w1 ⟨rfl, gB, cB, gI, cI, gR, cR, gT, cT, L⟩
      have J := K.inv.longer K.hold L rfl rfl rfl rfl rfl rfl rfl rfl
      have q1 : w1.cell? ⟨wb, 1, none⟩ = some (.slice row'.a row'.n row'.c) := cell_blk J.blk rfl
      clear hsK
      go_wp2_with (at_builtin; refine wpList_append_keep _ rfl _ _ 44 rfl 64 i0 (.pointer none) 1 8 Tryz.underlying44 hi hz0 hz1 hz2 rfl (by decide) row'.a row'.n row'.c row'.xs rfl (J.own.alloc _) ⟨w1.heap.size, 0, none⟩ 1 1 [.pointer (some ⟨wr.heap.size, 0, none⟩)] rfl rfl ?k1 ?k2 (by decide) ?k3 ?k4 (w1.heap.size + 1) (by simp) ?_)
      case k1 => exact World.news_of_block (heap_alloc_new w1 _)
      case k2 => intro u hu; simp at hu; subst hu; rfl
      case k3 => unfold maxLen; omega
      case k4 => omega
      intro g2 cp2 w5 o' o f3 hat
      have K2 := K.next hB hlt (by omega) (by omega) L rfl rfl rfl rfl rfl rfl rfl rfl o' f3 hat
      have wk := J.wk f3
      have d1 : w5.cell? ⟨wb, 1, none⟩ = some (.slice row'.a row'.n row'.c) := cell_blk wk rfl
      have e1 : w5.frozen? ⟨wb, 1, none⟩ = false := frozen_blk wk
      clear o' o f3 hat wk J L K q1
      go_wp2
      go_roundw
      case rel => exact ⟨n + 1, _, _, _, _, _, _, _, by omega, rfl, by go_num, K2⟩
      case measure => simp [intOf]; omega
    · have hn3 : n = 3 := by omega
      subst hn3
      go_wp2
      go_end0
      exact ⟨rfl, hs', row', K.inv.mono (fun _ _ h => h) (fun _ _ _ _ _ _ => trivial), by rw [K.len], K.fr⟩
#print axioms keep_any
end Go.Proofs.YtjgcfffepkmojaaGreat

namespace Go.Proofs.YtjgcfffepkmojaaGreat
open Go.RowKit
set_option linter.unusedVariables false

theorem rep_get (r : List Value) (n k j : Nat) (hk : k < n) (hj : j < r.length) : (rep r n)[k * r.length + j]? = r[j]? := by
  induction n with
  | zero => omega
  | succ n ih =>
    have hl := rep_len r n
    rw [rep]
    by_cases h : k < n
    · have : k * r.length + j < n * r.length := by
        have := Nat.mul_le_mul_right r.length (show k + 1 ≤ n from h)
        rw [Nat.succ_mul] at this; omega
      rw [List.getElem?_append_left (by omega)]; exact ih h
    · have : k = n := by omega
      subst this
      rw [List.getElem?_append_right (by omega), hl, Nat.add_sub_cancel_left]
theorem mB_get (m : Int) (n k : Nat) (hk : k < n) : (mB m n)[k]? = some (.int .u8 (sgn m k)) := by
  simp [mB, hk]
theorem own_get {w : World} {e : TypeId} {size g : Nat} {n cap : Nat} {xs : List Value} (h : Own w e size (some ⟨g, 0, none⟩) n cap xs) {j : Nat} {v : Value} (hj : xs[j]? = some v) : w.cell? ⟨g, j, none⟩ = some v := by
  have hlt : j < xs.length := (List.getElem?_eq_some_iff.1 hj).1
  rw [own_cell h j hlt]; rw [List.getElem?_eq_some_iff] at hj; exact congrArg some hj.2

set_option maxRecDepth 100000 in
set_option maxHeartbeats 2000000 in
theorem marked_any (w : World) (hb : Nat) (m : Int) (b i r t : Sl) (h : HoldS w hb m b i r t) (hm : Mk m b i r t) (h0 : 0 ≤ m) (h1 : m ≤ 20000000000000) (hs : small 16 b i r t) :
    Calls Tryz.prog 20 #[.pointer (some ⟨hb, 0, none⟩)] w fun e w' => e = .returned (.bool true) ∧ Fr nob w w' := by
  obtain ⟨bb, bi, br, bt⟩ := hs
  go_enter Tryz.func20, Tryz.ntmps20
  go_wp2_with fail
  go_loopw [3, 4] (fun o i wr => ∃ k : Nat, k ≤ b.n ∧ o = .bool true ∧ i = .int .i64 k ∧ Fr nob w wr) (fun _ i _ => b.n - (intOf i).toNat)
  case atStart => exact ⟨0, Nat.zero_le _, rfl, rfl, Fr.refl _ _⟩
  case round =>
    obtain ⟨k, hk, rfl, rfl, f⟩ := hrel
    have hw := h.fr f (fun h => h) (fun _ _ h => h)
    have c0 : wr.cell? ⟨hb, 0, none⟩ = some (.slice b.a b.n b.c) := cell_blk hw.blk rfl
    have c4 : wr.cell? ⟨hb, 4, none⟩ = some (.int .i64 m) := cell_blk hw.blk rfl
    by_cases hlt : k < b.n
    · obtain ⟨g, hg⟩ := own_some hw.ob hlt
      rw [hg] at c0
      have ho := hw.ob
      rw [hg] at ho
      have hu : wr.cell? ⟨g, k, none⟩ = some (.int .u8 (sgn m k)) := own_get ho (by rw [hm.b]; exact mB_get m _ k hlt)
      clear ho hg
      go_wp2_with fail
      go_quiet ((go_at_call 44; exact Calls.quiet_of_same (sign_any _ _ _ (by omega) (by omega) (by omega) (by omega))))
      go_wp2
      go_roundw
      case rel => exact ⟨k + 1, by omega, rfl, by go_num, f.drewN _⟩
      case measure => simp [intOf]; omega
    · go_wp2_with fail
      go_loopw [3, 5] (fun o j wr => ∃ k : Nat, k ≤ i.n ∧ o = .bool true ∧ j = .int .i64 k ∧ Fr nob w wr) (fun _ j _ => i.n - (intOf j).toNat)
      case atStart => exact ⟨0, Nat.zero_le _, rfl, rfl, f⟩
      case round =>
        clear hw c0 c4 f
        obtain ⟨k, hk, rfl, rfl, f⟩ := hrel
        have hw := h.fr f (fun h => h) (fun _ _ h => h)
        have c0 : wr.cell? ⟨hb, 1, none⟩ = some (.slice i.a i.n i.c) := cell_blk hw.blk rfl
        have c4 : wr.cell? ⟨hb, 4, none⟩ = some (.int .i64 m) := cell_blk hw.blk rfl
        by_cases hlt : k < i.n
        · obtain ⟨g, hg⟩ := own_some hw.oi hlt
          rw [hg] at c0
          have ho := hw.oi
          rw [hg] at ho
          have u0 : wr.cell? ⟨g, k * 4, none⟩ = some (.int .u16 7777) := own_get ho (by rw [hm.i]; exact rep_get (mI m) _ k 0 hlt (by simp [mI]))
          have u1 : wr.cell? ⟨g, k * 4 + 1, none⟩ = some (.int .u8 0) := own_get ho (by rw [hm.i]; exact rep_get (mI m) _ k 1 hlt (by simp [mI]))
          have u2 : wr.cell? ⟨g, k * 4 + 2, none⟩ = some (.int .u8 0) := own_get ho (by rw [hm.i]; exact rep_get (mI m) _ k 2 hlt (by simp [mI]))
          have u3 : wr.cell? ⟨g, k * 4 + 3, none⟩ = some (.int .u32 (m % 4294967296)) := own_get ho (by rw [hm.i]; exact rep_get (mI m) _ k 3 hlt (by simp [mI]))
          have hwm := wrapU32 m h0 h1
          clear ho hg
          go_wp2_with fail
          go_quiet (fail)
          go_wp2
          go_roundw
          case rel => exact ⟨k + 1, by omega, rfl, by go_num, f.drewN _⟩
          case measure => simp [intOf]; omega
        · go_wp2_with fail
          go_loopw [3, 6] (fun o j wr => ∃ k : Nat, k ≤ r.n ∧ o = .bool true ∧ j = .int .i64 k ∧ Fr nob w wr) (fun _ j _ => r.n - (intOf j).toNat)
          case atStart => exact ⟨0, Nat.zero_le _, rfl, rfl, f⟩
          case round =>
            clear hw c0 c4 f
            obtain ⟨k, hk, rfl, rfl, f⟩ := hrel
            have hw := h.fr f (fun h => h) (fun _ _ h => h)
            have hlt0 := hw.lt
            have c0 : wr.cell? ⟨hb, 2, none⟩ = some (.slice r.a r.n r.c) := cell_blk hw.blk rfl
            have c4 : wr.cell? ⟨hb, 4, none⟩ = some (.int .i64 m) := cell_blk hw.blk rfl
            by_cases hlt : k < r.n
            · obtain ⟨g, hg⟩ := own_some hw.or hlt
              rw [hg] at c0
              have ho := hw.or
              rw [hg] at ho
              have u0 : wr.cell? ⟨g, k * 3, none⟩ = some (.int .u32 (m % 4294967296)) := own_get ho (by rw [hm.r]; exact rep_get (mR m) _ k 0 hlt (by simp [mR]))
              have u1 : wr.cell? ⟨g, k * 3 + 1, none⟩ = some (.slice none 0 0) := own_get ho (by rw [hm.r]; exact rep_get (mR m) _ k 1 hlt (by simp [mR]))
              have u2 : wr.cell? ⟨g, k * 3 + 2, none⟩ = some (.int .u32 0) := own_get ho (by rw [hm.r]; exact rep_get (mR m) _ k 2 hlt (by simp [mR]))
              have hwm := wrapU32 m h0 h1
              clear ho hg
              go_wp2_with fail
              go_quiet (fail)
              go_wp2
              go_roundw
              case rel => exact ⟨k + 1, by omega, rfl, by go_num, (f.alloc _).drewN _⟩
              case measure => simp [intOf]; omega
            · go_wp2_with fail
              go_loopw [3, 8] (fun o j wr => ∃ k : Nat, k ≤ t.n ∧ o = .bool true ∧ j = .int .i64 k ∧ Fr nob w wr) (fun _ j _ => t.n - (intOf j).toNat)
              case atStart => exact ⟨0, Nat.zero_le _, rfl, rfl, f⟩
              case round =>
                clear hw c0 c4 f hlt0
                obtain ⟨k, hk, rfl, rfl, f⟩ := hrel
                have hw := h.fr f (fun h => h) (fun _ _ h => h)
                have c0 : wr.cell? ⟨hb, 3, none⟩ = some (.slice t.a t.n t.c) := cell_blk hw.blk rfl
                have c4 : wr.cell? ⟨hb, 4, none⟩ = some (.int .i64 m) := cell_blk hw.blk rfl
                by_cases hlt : k < t.n
                · obtain ⟨g, hg⟩ := own_some hw.ot hlt
                  rw [hg] at c0
                  have ho := hw.ot
                  rw [hg] at ho
                  have u0 : wr.cell? ⟨g, k * 4, none⟩ = some (.int .i64 (-m)) := own_get ho (by rw [hm.t]; exact rep_get (mT m) _ k 0 hlt (by simp [mT]))
                  have u1 : wr.cell? ⟨g, k * 4 + 1, none⟩ = some (.int .i64 0) := own_get ho (by rw [hm.t]; exact rep_get (mT m) _ k 1 hlt (by simp [mT]))
                  have u2 : wr.cell? ⟨g, k * 4 + 2, none⟩ = some (.int .u64 0) := own_get ho (by rw [hm.t]; exact rep_get (mT m) _ k 2 hlt (by simp [mT]))
                  have u3 : wr.cell? ⟨g, k * 4 + 3, none⟩ = some (.int .u64 0) := own_get ho (by rw [hm.t]; exact rep_get (mT m) _ k 3 hlt (by simp [mT]))
                  have hwm := wrapI64n m h0 h1
                  clear ho hg
                  go_wp2_with fail
                  go_quiet (fail)
                  go_wp2
                  go_roundw
                  case rel => exact ⟨k + 1, by omega, rfl, by go_num, f.drewN _⟩
                  case measure => simp [intOf]; omega
                · go_wp2
                  go_ret
                  exact ⟨rfl, f⟩

/-- 'looks': all holds read as their owners wrote them. -/
theorem looks_any (w : World) (B wb : Nat) (ps : Value) (hs : List Nat) (F : Nat → Prop) (row : Sl) (hI : Inv w B wb ps hs F anyQ row) (hlen : hs.length ≤ 10000000000000) :
    Calls Tryz.prog 12 #[.pointer (some ⟨wb, 0, none⟩)] w fun e w' => e = .returned (.bool true) ∧ Fr nob w w' := by
  have hrn : row.n ≤ 10000000000000 := by rw [hI.n]; exact hlen
  go_enter Tryz.func12, Tryz.ntmps12
  go_wp2_with fail
  go_loopw [3] (fun i wr => ∃ k : Nat, k ≤ row.n ∧ i = .int .i64 k ∧ Fr nob w wr) (fun i _ => row.n - (intOf i).toNat)
  case atStart => exact ⟨0, Nat.zero_le _, rfl, Fr.refl _ _⟩
  case round =>
    obtain ⟨k, hk, rfl, f⟩ := hrel
    have hw : Inv wr B wb ps hs F anyQ row := hI.fr f (fun h => h) (fun _ _ h => h) (fun _ _ h => h)
    have c0 : wr.cell? ⟨wb, 1, none⟩ = some (.slice row.a row.n row.c) := cell_blk hw.blk rfl
    by_cases hlt : k < row.n
    · obtain ⟨g, hg⟩ := own_some hw.own hlt
      rw [hg] at c0
      have ho := hw.own
      rw [hg] at ho
      have hlt2 : k < hs.length := by rw [← hw.n]; exact hlt
      have hu : wr.cell? ⟨g, k, none⟩ = some (.pointer (some ⟨hs[k], 0, none⟩)) := own_get ho (by rw [hw.xs]; simp [hlt2])
      obtain ⟨m, b, i, r, t, h1, h2, h3, h4, h5, _⟩ := hw.all hs[k] (List.getElem_mem hlt2)
      clear ho hg
      go_wp2_with fail
      refine (marked_any _ _ m b i r t h1 h2 h3 h4 h5).mono ?_
      rintro e w1 ⟨rfl, f1⟩
      go_wp2
      go_roundw
      case rel => exact ⟨k + 1, by omega, by go_num, f.trans f1⟩
      case measure => simp [intOf]; omega
    · go_wp2
      go_ret
      exact ⟨rfl, f⟩
#print axioms looks_any
end Go.Proofs.YtjgcfffepkmojaaGreat
