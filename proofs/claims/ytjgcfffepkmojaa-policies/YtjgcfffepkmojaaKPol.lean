import Derived.Test.YtjgcfffepkmojaaKRec
import Derived.Test.YtjgcfffepkmojaaRAsk
import Derived.Test.YtjgcfffepkmojaaCSem
import Derived.Test.YtjgcfffepkmojaaKKnow
import Derived.BigQuiet
import Derived.Deep.RegionHeld3
namespace Go.Proofs.Ytjgcfffepkmojaa
open Go.RowKit
set_option linter.unusedVariables false

/-! ### A record's arguments -/
theorem f2_at (a b : Int) (q : Nat → Int) (n i : Nat) (hn : n < 6) (hi : i < 8) : f2 a b q 48 (16 + 8 * n + i) = bt (q n) i := by
  unfold f2
  rw [if_pos (by omega), show (16 + 8 * n + i - 16) / 8 = n by omega, show (16 + 8 * n + i - 16) % 8 = i by omega]
theorem bt8 (x : Int) (h : U64 x) : bt x 0 + bt x 1 * 256 + bt x 2 * 65536 + bt x 3 * 16777216 + (bt x 4 + bt x 5 * 256 + bt x 6 * 65536 + bt x 7 * 16777216) * 4294967296 = x := by
  have h0 := h.1
  have h1 := h.2
  unfold bt
  rw [show (2 : Int) ^ (8 * 0) = 1 by decide, show (2 : Int) ^ (8 * 1) = 256 by decide, show (2 : Int) ^ (8 * 2) = 65536 by decide, show (2 : Int) ^ (8 * 3) = 16777216 by decide,
    show (2 : Int) ^ (8 * 4) = 4294967296 by decide, show (2 : Int) ^ (8 * 5) = 1099511627776 by decide, show (2 : Int) ^ (8 * 6) = 281474976710656 by decide, show (2 : Int) ^ (8 * 7) = 72057594037927936 by decide]
  omega
theorem rec_arg (a b : Int) (q : Nat → Int) (n : Nat) (hn : n < 6) (hq : U64 (q n)) : arg64 (recB a b q) n = q n := by
  unfold arg64 wd
  rw [rec_byt _ _ _ _ (by omega), rec_byt _ _ _ _ (by omega), rec_byt _ _ _ _ (by omega), rec_byt _ _ _ _ (by omega), rec_byt _ _ _ _ (by omega), rec_byt _ _ _ _ (by omega), rec_byt _ _ _ _ (by omega), rec_byt _ _ _ _ (by omega)]
  have e : ∀ i, i < 8 → f2 a b q 48 (16 + 8 * n + i) = bt (q n) i := fun i hi => f2_at a b q n i hn hi
  rw [show 16 + 8 * n = 16 + 8 * n + 0 by omega, e 0 (by decide)]
  rw [show 16 + 8 * n + 0 + 1 = 16 + 8 * n + 1 by omega, e 1 (by decide), show 16 + 8 * n + 0 + 2 = 16 + 8 * n + 2 by omega, e 2 (by decide), show 16 + 8 * n + 0 + 3 = 16 + 8 * n + 3 by omega, e 3 (by decide),
    show 16 + 8 * n + 0 + 4 = 16 + 8 * n + 4 by omega, e 4 (by decide), show 16 + 8 * n + 4 + 1 = 16 + 8 * n + 5 by omega, e 5 (by decide), show 16 + 8 * n + 4 + 2 = 16 + 8 * n + 6 by omega, e 6 (by decide), show 16 + 8 * n + 4 + 3 = 16 + 8 * n + 7 by omega, e 7 (by decide)]
  exact bt8 (q n) hq
#print axioms rec_arg
end Go.Proofs.Ytjgcfffepkmojaa

namespace Go.Proofs.Ytjgcfffepkmojaa
open Go.RowKit
set_option linter.unusedVariables false

/-! ### Policies: any policy, any call -/
set_option maxRecDepth 100000 in
set_option maxHeartbeats 4000000 in
theorem kholds_any (w : World) (t : Tst) (h0 : 0 ≤ t.how) (h1 : t.how ≤ 6) (a : Int) :
    Calls Try.prog 17 #[.int .i64 t.how, .int .u64 a, .int .u64 t.value, .int .u64 t.mask] w fun e w' => e = .returned (.bool (hldA t a)) ∧ w' = w := by
  have hc : t.how = 0 ∨ t.how = 1 ∨ t.how = 2 ∨ t.how = 3 ∨ t.how = 4 ∨ t.how = 5 ∨ t.how = 6 := by omega
  have HR : Hid (∀ h, t.how = h → hldA t a = (if h = 0 then a == t.value else if h = 1 then !(a == t.value) else if h = 2 then decide (a < t.value) else if h = 3 then decide (a ≤ t.value) else if h = 4 then decide (t.value < a)
    else if h = 5 then decide (t.value ≤ a) else bits .and .u64 a t.mask == t.value)) := fun h e => by rw [← e]; rfl
  rcases hc with hc | hc | hc | hc | hc | hc | hc
  all_goals
    rw [HR.out _ hc]
    clear HR
    rw [hc]
    clear hc h0 h1
    go_enter Try.func17, Try.ntmps17
    go_wp2
    go_ret
    exact ⟨by first | rfl | simp, rfl⟩
theorem mayT_cases (t : Tst) : (t.arg < 0 ∧ mayT t = false) ∨ (0 ≤ t.arg ∧ 6 ≤ t.arg ∧ mayT t = false) ∨ (0 ≤ t.arg ∧ t.arg < 6 ∧ t.how < 0 ∧ mayT t = false) ∨ (0 ≤ t.arg ∧ t.arg < 6 ∧ 0 ≤ t.how ∧ 6 < t.how ∧ mayT t = false) ∨ (0 ≤ t.arg ∧ t.arg < 6 ∧ 0 ≤ t.how ∧ t.how ≤ 6 ∧ mayT t = true) := by
  have hm : mayT t = (decide (0 ≤ t.arg) && decide (t.arg ≤ 5) && decide (0 ≤ t.how) && decide (t.how ≤ 6)) := rfl
  rcases (by omega : t.arg < 0 ∨ (0 ≤ t.arg ∧ 6 ≤ t.arg) ∨ (0 ≤ t.arg ∧ t.arg < 6 ∧ t.how < 0) ∨ (0 ≤ t.arg ∧ t.arg < 6 ∧ 0 ≤ t.how ∧ 6 < t.how) ∨ (0 ≤ t.arg ∧ t.arg < 6 ∧ 0 ≤ t.how ∧ t.how ≤ 6)) with h | ⟨h1, h2⟩ | ⟨h1, h2, h3⟩ | ⟨h1, h2, h3, h4⟩ | ⟨h1, h2, h3, h4⟩
  · exact .inl ⟨h, by rw [hm, decide_eq_false (by omega)]; rfl⟩
  · exact .inr (.inl ⟨h1, h2, by rw [hm, decide_eq_false (show ¬ t.arg ≤ 5 by omega)]; simp⟩)
  · exact .inr (.inr (.inl ⟨h1, h2, h3, by rw [hm, decide_eq_false (show ¬ 0 ≤ t.how by omega)]; simp⟩))
  · exact .inr (.inr (.inr (.inl ⟨h1, h2, h3, h4, by rw [hm, decide_eq_false (show ¬ t.how ≤ 6 by omega)]; simp⟩)))
  · exact .inr (.inr (.inr (.inr ⟨h1, h2, h3, h4, by rw [hm, decide_eq_true h1, decide_eq_true (show t.arg ≤ 5 by omega), decide_eq_true h3, decide_eq_true h4]; rfl⟩)))
/-- Does a rule fit a call? -/
def fitQ (num : Int) (q : Nat → Int) (x : Rul) : Bool := (x.number == num) && x.ts.all fun t => hldA t (q t.arg.toNat)
def askQ (els num : Int) (q : Nat → Int) (rs : List Rul) : Int := match rs.find? (fitQ num q) with | some x => x.verdict | none => els
/-- Has one of the first i rules fitted, and what is wanted then? Do the first k tests hold? -/
def fndI (num : Int) (q : Nat → Int) (rs : List Rul) (i : Nat) : Bool := (rs.take i).any (fitQ num q)
def askI (els num : Int) (q : Nat → Int) (rs : List Rul) (i : Nat) : Int := askQ els num q (rs.take i)
def fndK (B : Bool) (q : Nat → Int) (ts : List Tst) (k : Nat) : Bool := B && (ts.take k).all fun t => hldA t (q t.arg.toNat)
theorem fndK_zero (B : Bool) (q : Nat → Int) (ts : List Tst) : fndK B q ts 0 = B := by simp [fndK]
theorem fndK_succ (B : Bool) (q : Nat → Int) (ts : List Tst) (k : Nat) (hk : k < ts.length) : fndK B q ts (k + 1) = (fndK B q ts k && hldA ts[k] (q ts[k].arg.toNat)) := by unfold fndK; rw [take_all hk, Bool.and_assoc]
theorem fndK_all (num : Int) (q : Nat → Int) (x : Rul) : fndK (x.number == num) q x.ts x.ts.length = fitQ num q x := by unfold fndK fitQ; rw [List.take_length]
theorem find_any {α : Type} (p : α → Bool) (l : List α) : (l.find? p).isSome = l.any p := by
  induction l with
  | nil => rfl
  | cons a l ih =>
    rw [List.find?_cons, List.any_cons]
    cases h : p a with
    | true => rfl
    | false => rw [Bool.false_or, ← ih]
theorem fndI_no {els num : Int} {q : Nat → Int} {rs : List Rul} {i : Nat} (h : fndI num q rs i = false) : (rs.take i).find? (fitQ num q) = none := by
  unfold fndI at h
  rw [← find_any] at h
  cases hf : (rs.take i).find? (fitQ num q) with
  | none => rfl
  | some x => rw [hf] at h; cases h
theorem fndI_succ {num : Int} {q : Nat → Int} {rs : List Rul} {i : Nat} (hi : i < rs.length) (h : fndI num q rs i = false) : fndI num q rs (i + 1) = fitQ num q rs[i] := by
  unfold fndI at h ⊢
  rw [List.take_succ_eq_append_getElem hi, List.any_append, h]
  simp
theorem askI_succ {els num : Int} {q : Nat → Int} {rs : List Rul} {i : Nat} (hi : i < rs.length) (h : fndI num q rs i = false) : askI els num q rs (i + 1) = if fitQ num q rs[i] then rs[i].verdict else askI els num q rs i := by
  have h0 := fndI_no (els := els) h
  unfold askI askQ
  rw [List.take_succ_eq_append_getElem hi, List.find?_append, h0, List.find?_cons]
  cases fitQ num q rs[i] <;> rfl
theorem askI_end {els num : Int} {q : Nat → Int} {rs : List Rul} {i : Nat} (h : rs.length ≤ i ∨ fndI num q rs i = true) : askI els num q rs i = askQ els num q rs := by
  unfold askI
  rcases h with h | h
  · rw [List.take_of_length_le h]
  · unfold fndI at h
    rw [← find_any] at h
    obtain ⟨x, hx⟩ := Option.isSome_iff_exists.1 h
    have : rs.find? (fitQ num q) = some x := by
      have := List.find?_append (xs := rs.take i) (ys := rs.drop i) (p := fitQ num q)
      rw [List.take_append_drop, hx] at this
      exact this
    unfold askQ
    rw [hx, this]
theorem hld_rec (num ar : Int) (q : Nat → Int) (hq : ∀ k, U64 (q k)) (t : Tst) (ht : okT t) : hldR (recB num ar q) t = hldA t (q t.arg.toNat) := by
  have h := rec_arg num ar q t.arg.toNat (by have := ht.2.1; omega) (hq _)
  unfold hldR
  rw [h]
theorem all_same {α : Type} {p q : α → Bool} (l : List α) (h : ∀ x ∈ l, p x = q x) : l.all p = l.all q := by
  induction l with
  | nil => rfl
  | cons x l ih => rw [List.all_cons, List.all_cons, ih (fun y hy => h y (List.mem_cons_of_mem _ hy)), h x (List.mem_cons_self ..)]
theorem find_same {α : Type} {p q : α → Bool} (l : List α) (h : ∀ x ∈ l, p x = q x) : l.find? p = l.find? q := by
  induction l with
  | nil => rfl
  | cons x l ih => rw [List.find?_cons, List.find?_cons, ih (fun y hy => h y (List.mem_cons_of_mem _ hy)), h x (List.mem_cons_self ..)]
theorem holds_rec (num ar : Int) (q : Nat → Int) (hq : ∀ k, U64 (q k)) (ts : List Tst) (h : ∀ t ∈ ts, okT t) : ts.all (hldR (recB num ar q)) = ts.all fun t => hldA t (q t.arg.toNat) :=
  all_same ts (fun t ht => hld_rec num ar q hq t (h t ht))
theorem fit_rec (num ar : Int) (q : Nat → Int) (hn : U32 num) (hq : ∀ k, U64 (q k)) (x : Rul) (h : ∀ t ∈ x.ts, okT t) : fitS (recB num ar q) x = fitQ num q x := by
  unfold fitS fitQ
  rw [rec_wd0 num ar q hn, holds_rec num ar q hq x.ts h]
  have e1 : (num == x.number) = (x.number == num) := by
    rw [Bool.eq_iff_iff, beq_iff_eq, beq_iff_eq]
    exact eq_comm
  rw [e1]
theorem find_rec (num ar : Int) (q : Nat → Int) (hn : U32 num) (hq : ∀ k, U64 (q k)) (rs : List Rul) (h : ∀ x ∈ rs, ∀ t ∈ x.ts, okT t) : rs.find? (fitS (recB num ar q)) = rs.find? (fitQ num q) :=
  find_same rs (fun x hx => fit_rec num ar q hn hq x (h x hx))
/-- What the policy says of the record, told by its parts. -/
theorem ask_rec (arch els oth num ar : Int) (q : Nat → Int) (hn : U32 num) (hr : U32 ar) (hq : ∀ k, U64 (q k)) (rs : List Rul) (hok : ∀ x ∈ rs, x.ts.length ≤ 6 ∧ ∀ t ∈ x.ts, okT t) :
    askS arch els oth rs (recB num ar q) = if ar = arch then askQ els num q rs else oth := by
  unfold askS askQ
  rw [rec_wd4 num ar q hr, find_rec num ar q hn hq rs (fun x hx => (hok x hx).2)]
  cases rs.find? (fitQ num q) <;> rfl
theorem run_fine {l : List Ins} (h : Fine l) (r : ByteArray) (hr : r.size = 64) : ∃ n : Nat, runA l r = (ver l r, (n : Int), 0) ∧ 1 ≤ n ∧ n ≤ l.length := by
  obtain ⟨N, h1, h2, h3, h4⟩ := stN_ends h.good r
  refine ⟨N, ?_, h1, h2⟩
  unfold runA
  rw [h.chk, if_neg (by decide), if_neg (by omega), fin_eq h2 h3 h4]
/-- May the first i rules be? The first k tests? -/
def mayI (rs : List Rul) (i : Nat) : Bool := decide (rs.length ≤ 40) && (rs.take i).all mayR
def mayK (C : Bool) (ts : List Tst) (k : Nat) : Bool := C && (ts.take k).all mayT
theorem mayI_zero (rs : List Rul) : mayI rs 0 = decide (rs.length ≤ 40) := by simp [mayI]
theorem mayK_zero (C : Bool) (ts : List Tst) : mayK C ts 0 = C := by simp [mayK]
theorem mayK_succ (C : Bool) (ts : List Tst) (k : Nat) (hk : k < ts.length) : mayK C ts (k + 1) = (mayK C ts k && mayT ts[k]) := by unfold mayK; rw [take_all hk, Bool.and_assoc]
theorem mayI_succ (rs : List Rul) (i : Nat) (hi : i < rs.length) : mayI rs (i + 1) = mayK (mayI rs i && decide (rs[i].ts.length ≤ 6)) rs[i].ts rs[i].ts.length := by
  unfold mayI mayK
  rw [take_all hi, List.take_length]
  unfold mayR
  rw [Bool.and_assoc, Bool.and_assoc]
theorem mayI_all (rs : List Rul) : mayI rs rs.length = mayA rs := by unfold mayI mayA; rw [List.take_length]

end Go.Proofs.Ytjgcfffepkmojaa

namespace Go.Proofs.Ytjgcfffepkmojaa
open Go.RowKit
set_option linter.unusedVariables false

set_option maxRecDepth 100000 in
set_option maxHeartbeats 8000000 in
theorem policies_any (w : World) (arch els oth : Int) (ao : Option Addr) (cap : Nat) (rs : List Rul) (hv : RV w ao rs) (hl : rs.length ≤ 9223372036854775807) (ht : ∀ x ∈ rs, x.ts.length ≤ 9223372036854775807) (hf : ∀ x ∈ rs, U32 x.number ∧ U32 x.verdict ∧ ∀ t ∈ x.ts, t.rng)
    (ha : U32 arch) (he : U32 els) (ho : U32 oth) (num ar : Int) (hn : U32 num) (hr : U32 ar) (q : Nat → Int) (hq : ∀ k, U64 (q k)) :
    Calls Try.prog 7 #[.agg #[.int .u32 arch, .slice ao rs.length cap, .int .u32 els, .int .u32 oth], .int .u32 num, .int .u32 ar, .agg (qs q).toArray] w fun e w' => e = .returned (.bool true) ∧ Fr nob w w' := by
  obtain ⟨w0, hw0⟩ : ∃ w0, w0 = ((w.alloc (.cells #[.int .u32 arch, .slice ao rs.length cap, .int .u32 els, .int .u32 oth] 49)).alloc (.cells (qs q).toArray 36)) := ⟨_, rfl⟩
  have F0 : Hid (Fr nob w w0) := by rw [hw0]; exact ((Fr.refl _ w).alloc _).alloc _
  have KP : Hid (w0.heap[w.heap.size]? = some (.cells #[.int .u32 arch, .slice ao rs.length cap, .int .u32 els, .int .u32 oth] 49 (0, 0))) := by
    rw [hw0]
    exact (((Fr.refl nob _).alloc _).heap (heap_alloc_new w _) (fun h => h))
  have KA : Hid (w0.heap[w.heap.size + 1]? = some (.cells (qs q).toArray 36 (0, 0))) := by
    rw [hw0]
    have h := heap_alloc_new (w.alloc (.cells #[.int .u32 arch, .slice ao rs.length cap, .int .u32 els, .int .u32 oth] 49)) (.cells (qs q).toArray 36)
    rw [World.size_alloc] at h
    exact h
  have RV0 : Hid (RV w0 ao rs) := hv.fr0 F0.out
  have HW0 := hide hw0
  have HT := hide ht
  have HF := hide hf
  have HQ := hide hq
  have HU := hide (⟨ha, he, ho, hn, hr⟩ : U32 arch ∧ U32 els ∧ U32 oth ∧ U32 num ∧ U32 ar)
  clear hv ht hf hq hw0 ha he ho hn hr
  go_enter Try.func7, Try.ntmps7
  go_wp2_with fail
  rw [← HW0.out]
  refine (known_any w0).mono ?_
  rintro e w1 ⟨rfl, f1⟩
  have kp := f1.heap KP.out (fun h => h)
  have p0 : w1.cell? ⟨w.heap.size, 0, none⟩ = some (.int .u32 arch) := cell_blk kp rfl
  have p1 : w1.cell? ⟨w.heap.size, 1, none⟩ = some (.slice ao rs.length cap) := cell_blk kp rfl
  have p2 : w1.cell? ⟨w.heap.size, 2, none⟩ = some (.int .u32 els) := cell_blk kp rfl
  have p3 : w1.cell? ⟨w.heap.size, 3, none⟩ = some (.int .u32 oth) := cell_blk kp rfl
  have hc := compile_any w1 arch els oth ao cap rs (RV0.out.fr0 f1) hl HT.out (fun x hx => (HF.out x hx).2.2)
  obtain ⟨L, hL⟩ : ∃ L, L = (co arch els oth (rs.map rd)).1 := ⟨_, rfl⟩
  obtain ⟨er, her⟩ : ∃ er, er = (co arch els oth (rs.map rd)).2 := ⟨_, rfl⟩
  rw [← hL, ← her] at hc
  have HC := hide hc
  have HL := hide hL
  have HER := hide her
  have F1 := hide f1
  clear kp hc hL her f1 HW0
  go_wp2_with fail
  refine HC.out.mono ?_
  rintro e w2 ⟨la, lc, rfl, o2, _, f2⟩
  have F2 := hide (F1.out.trans f2)
  have O2 := hide o2
  have kp := F2.out.heap KP.out (fun h => h)
  have z1 : w2.cell? ⟨w.heap.size, 1, none⟩ = some (.slice ao rs.length cap) := cell_blk kp rfl
  clear HC o2 f2 p0 p1 p2 p3 kp F1
  go_wp2_with fail
  obtain ⟨b40, h40b⟩ : ∃ b40, b40 = decide (rs.length ≤ 40) := ⟨_, rfl⟩
  rw [show decide ((rs.length : Int) ≤ 40) = b40 by rw [h40b]; congr 1; apply propext; omega]
  have HB40 := hide h40b
  clear h40b
  go_loopw [12, 13] (fun m y wr => ∃ i : Nat, i ≤ rs.length ∧ y = .int .i64 i ∧ m = .bool (mayI rs i) ∧ Fr nob w2 wr) (fun _ y _ => rs.length - (intOf y).toNat)
  case atStart => exact ⟨0, Nat.zero_le _, rfl, by rw [mayI_zero, HB40.out], Fr.refl _ _⟩
  case round =>
    obtain ⟨i, hi, rfl, rfl, f⟩ := hrel
    have fw := F2.out.trans f
    have kp := fw.heap KP.out (fun h => h)
    have y1 : wr.cell? ⟨w.heap.size, 1, none⟩ = some (.slice ao rs.length cap) := cell_blk kp rfl
    by_cases hlt : i < rs.length
    · obtain ⟨b, off, hao, hcs⟩ := view_at (f := Rul.cs) (n := 3) (fun _ => rfl) (by decide) (RV0.out.fr0 fw).v hlt
      obtain ⟨x, hx⟩ : ∃ x, x = rs[i] := ⟨_, rfl⟩
      have hxm : x ∈ rs := by rw [hx]; exact List.getElem_mem _
      have c1 : wr.cell? ⟨b, off + i * 3 + 1, none⟩ = some (.slice x.ta x.ts.length x.cap) := by rw [hx]; exact hcs 1 _ (by decide) rfl
      have hlti : (i : Int) < (rs.length : Int) := by omega
      have htl := HT.out x hxm
      have VX := hide (RV0.out.t x hxm)
      have HX := hide hx
      have FF := hide f
      rw [hao] at y1
      have hb6 : decide ((x.ts.length : Int) ≤ 6) = decide (x.ts.length ≤ 6) := by congr 1; apply propext; omega
      obtain ⟨B, hB⟩ : ∃ B, B = mayI rs i := ⟨_, rfl⟩
      rw [← hB]
      have HB := hide hB
      clear hcs hx f fw kp hB
      go_upto_region 9 with fail
      go_cut [12] from 44 to 54 (fun m wx => m = .bool (B && decide (x.ts.length ≤ 6)) ∧ wx = wr)
      case first =>
        cases B with
        | false =>
          go_wp2
          go_meet
          exact ⟨rfl, rfl⟩
        | true =>
          go_wp2
          go_meet
          exact ⟨by rw [Bool.true_and, ← hb6], rfl⟩
      case rest =>
        obtain ⟨rfl, hwx⟩ := hcut
        subst hwx
        obtain ⟨C, hC⟩ : ∃ C, C = (B && decide (x.ts.length ≤ 6)) := ⟨_, rfl⟩
        rw [← hC]
        have HC := hide hC
        clear hC
        go_wp2_with fail
        go_loopw [12, 14] (fun m y wz => ∃ k : Nat, k ≤ x.ts.length ∧ y = .int .i64 k ∧ m = .bool (mayK C x.ts k) ∧ Fr nob w2 wz) (fun _ y _ => x.ts.length - (intOf y).toNat)
        case atStart => exact ⟨0, Nat.zero_le _, rfl, by rw [mayK_zero], FF.out⟩
        case round =>
          clear FF y1 c1
          rename World => wz
          obtain ⟨k, hk, rfl, rfl, f⟩ := hrel
          have fz := F2.out.trans f
          have y1 : wz.cell? ⟨w.heap.size, 1, none⟩ = some (.slice (some ⟨b, off, none⟩) rs.length cap) := by rw [← hao]; exact cell_blk (fz.heap KP.out (fun h => h)) rfl
          obtain ⟨b', off', hao', hcs⟩ := view_at (f := Rul.cs) (n := 3) (fun _ => rfl) (by decide) (RV0.out.fr0 fz).v hlt
          have c1 : wz.cell? ⟨b, off + i * 3 + 1, none⟩ = some (.slice x.ta x.ts.length x.cap) := by
            rw [hao] at hao'
            cases hao'
            rw [HX.out]
            exact hcs 1 _ (by decide) rfl
          clear hcs hao'
          have FZ := hide f
          by_cases hkl : k < x.ts.length
          · obtain ⟨tb, toff, hta, tcs'⟩ := view_at (f := Tst.cs) (n := 4) (fun _ => rfl) (by decide) (VX.out.fr0 fz) hkl
            obtain ⟨t, ht⟩ : ∃ t, t = x.ts[k] := ⟨_, rfl⟩
            have t0 : wz.cell? ⟨tb, toff + k * 4, none⟩ = some (.int .i64 t.arg) := by rw [ht]; exact tcs' 0 _ (by decide) rfl
            have t1 : wz.cell? ⟨tb, toff + k * 4 + 1, none⟩ = some (.int .i64 t.how) := by rw [ht]; exact tcs' 1 _ (by decide) rfl
            have t2 : wz.cell? ⟨tb, toff + k * 4 + 2, none⟩ = some (.int .u64 t.value) := by rw [ht]; exact tcs' 2 _ (by decide) rfl
            have t3 : wz.cell? ⟨tb, toff + k * 4 + 3, none⟩ = some (.int .u64 t.mask) := by rw [ht]; exact tcs' 3 _ (by decide) rfl
            have hlk : (k : Int) < (x.ts.length : Int) := by omega
            rw [hta] at c1
            have HTT := hide ht
            obtain ⟨D, hD⟩ : ∃ D, D = mayK C x.ts k := ⟨_, rfl⟩
            rw [← hD]
            have HNX : Hid (mayK C x.ts (k + 1) = (D && mayT t)) := hide (by rw [mayK_succ C x.ts k hkl, hD, ht])
            clear tcs' ht fz f hD
            cases D with
            | false =>
              go_wp2
              refine ⟨⟨k + 1, by omega, by go_num, by rw [HNX.out]; rfl, FZ.out.alloc _⟩, ?_⟩
              simp [intOf]
              omega
            | true =>
              rcases mayT_cases t with ⟨h1, hm⟩ | ⟨h1, h2, hm⟩ | ⟨h1, h2, h3, hm⟩ | ⟨h1, h2, h3, h4, hm⟩ | ⟨h1, h2, h3, h4, hm⟩
              all_goals
                have HM := hide hm
                clear hm
                go_wp2
                refine ⟨⟨k + 1, by omega, by go_num, by rw [HNX.out, HM.out]; first | rfl | (rw [decide_eq_false (by omega)]; rfl) | (rw [decide_eq_true (by omega)]; rfl), FZ.out.alloc _⟩, ?_⟩
                simp [intOf]
                omega
          · obtain rfl : k = x.ts.length := by omega
            have HNX : Hid (mayI rs (i + 1) = mayK C x.ts x.ts.length) := hide (by rw [mayI_succ rs i hlt, ← HX.out, HC.out, HB.out])
            clear f fz
            go_wp2
            refine ⟨⟨i + 1, by omega, by go_num, by rw [HNX.out], FZ.out⟩, ?_⟩
            simp [intOf]
            omega
    · obtain rfl : i = rs.length := by omega
      rw [mayI_all]
      have FR := hide fw
      have k0 : wr.cell? ⟨w.heap.size, 0, none⟩ = some (.int .u32 arch) := cell_blk kp rfl
      have k2 : wr.cell? ⟨w.heap.size, 2, none⟩ = some (.int .u32 els) := cell_blk kp rfl
      have OL := hide (own_fr O2.out f (fun _ _ h => h))
      clear f fw kp O2 z1
      cases hm : mayA rs with
      | false =>
        have hb := co_bad arch els oth rs (by rw [← mayA_eq]; exact hm)
        have e1 : L = [] := by rw [HL.out, hb]
        have e2 : er = 11 := by rw [HER.out, hb]
        subst e1 e2
        clear hm hb
        go_wp2
        go_ret
        exact ⟨rfl, F0.out.trans FR.out⟩
      | true =>
        obtain ⟨h40, h6⟩ := okR_of (by rw [← mayA_eq]; exact hm) HF.out
        have hg := co_good arch els oth rs HF.out HU.out.1 HU.out.2.1 HU.out.2.2.1 (by rw [← mayA_eq]; exact hm)
        rw [← HL.out, ← HER.out] at hg
        obtain ⟨hg1, hg2, hg3⟩ := hg
        have HG2 := hide hg2
        have HG3 := hide hg3
        have HOK : Hid (∀ x ∈ rs, x.ts.length ≤ 6 ∧ ∀ t ∈ x.ts, okT t) := fun x hx => by
          have := h6 (rd x) (List.mem_map.2 ⟨x, hx, rfl⟩)
          exact ⟨this.2.2.1, this.2.2.2⟩
        obtain ⟨rec, hrec⟩ : ∃ rec, rec = recB num ar q := ⟨_, rfl⟩
        obtain ⟨V, hV⟩ : ∃ V, V = ver L rec := ⟨_, rfl⟩
        have HV : Hid (V = if ar = arch then askQ els num q rs else oth) := hide (by
          rw [hV, hg3 rec, hrec]
          exact ask_rec arch els oth num ar q HU.out.2.2.2.1 HU.out.2.2.2.2 HQ.out rs HOK.out)
        have HREC : Hid (∀ wx, Calls Try.prog 13 #[.int .u32 num, .int .u32 ar, .agg #[.int .u64 (q 0), .int .u64 (q 1), .int .u64 (q 2), .int .u64 (q 3), .int .u64 (q 4), .int .u64 (q 5)]] wx fun e w' => e = .returned (.string rec) ∧ Fr nob wx w') := fun wx => by
          rw [hrec]
          exact record_any wx num ar HU.out.2.2.2.1 HU.out.2.2.2.2 q HQ.out
        have HVER : Hid (∀ wx, View wx la (flat L) → Calls Try.prog 14 #[.slice la L.length lc, .string rec] wx fun e w' => e = .returned (.tuple #[.int .u32 V, .bool true]) ∧ Fr nob wx w') := fun wx hvw => by
          obtain ⟨n, e1, e2, e3⟩ := run_fine hg2 rec (by rw [hrec]; exact rec_size _ _ _)
          rw [hV]
          exact verdict_any wx la lc L hvw hg2.good.ok rec _ n e1 e2 e3
        subst hg1
        clear hm hg2 hg3 h6 hrec hV HG2 HG3 HL HER h40
        go_wp2_with fail
        go_loopw [16, 17, 18] (fun v f y wy => ∃ i : Nat, i ≤ rs.length ∧ y = .int .i64 i ∧ f = .bool (fndI num q rs i) ∧ v = .int .u32 (askI els num q rs i) ∧ Fr nob wr wy) (fun _ _ y _ => rs.length - (intOf y).toNat)
        case atStart => exact ⟨0, Nat.zero_le _, rfl, rfl, rfl, Fr.refl _ _⟩
        case round =>
          have OLV := hide (own_v OL.out)
          have FRO := FR
          clear y1 k0 k2 hi hlt FR OL
          rename World => wy
          obtain ⟨i, hi, rfl, rfl, rfl, f⟩ := hrel
          have kp := (FRO.out.trans f).heap KP.out (fun h => h)
          have y1 : wy.cell? ⟨w.heap.size, 1, none⟩ = some (.slice ao rs.length cap) := cell_blk kp rfl
          have HEND : Hid ((rs.length ≤ i ∨ fndI num q rs i = true) → V = if ar = arch then askI els num q rs i else oth) := fun h => by
            rw [askI_end h]
            exact HV.out
          by_cases hlt : i < rs.length
          · have hlti : (i : Int) < (rs.length : Int) := by omega
            cases hfd : fndI num q rs i with
            | true =>
              have HWANT := hide (HEND.out (.inr hfd))
              have k0 : wy.cell? ⟨w.heap.size, 0, none⟩ = some (.int .u32 arch) := cell_blk kp rfl
              have k3 : wy.cell? ⟨w.heap.size, 3, none⟩ = some (.int .u32 oth) := cell_blk kp rfl
              have FY := hide f
              clear f kp HEND hfd
              have ka := (FRO.out.trans FY.out).heap KA.out (fun h => h)
              have q0 : wy.cell? ⟨w.heap.size + 1, 0, none⟩ = some (.int .u64 (q 0)) := cell_blk ka rfl
              have q1 : wy.cell? ⟨w.heap.size + 1, 1, none⟩ = some (.int .u64 (q 1)) := cell_blk ka rfl
              have q2 : wy.cell? ⟨w.heap.size + 1, 2, none⟩ = some (.int .u64 (q 2)) := cell_blk ka rfl
              have q3 : wy.cell? ⟨w.heap.size + 1, 3, none⟩ = some (.int .u64 (q 3)) := cell_blk ka rfl
              have q4 : wy.cell? ⟨w.heap.size + 1, 4, none⟩ = some (.int .u64 (q 4)) := cell_blk ka rfl
              have q5 : wy.cell? ⟨w.heap.size + 1, 5, none⟩ = some (.int .u64 (q 5)) := cell_blk ka rfl
              clear ka
              by_cases hae : ar = arch
              · have hw := HWANT.out
                rw [if_pos hae] at hw
                subst hae
                rw [← hw]
                clear hw HWANT HV
                go_wp2_with fail
                refine (HREC.out _).mono ?_
                rintro e wa ⟨rfl, fa⟩
                have HVE := hide (HVER.out wa ((OLV.out.fr0 FY.out).fr0 fa))
                have FA := hide (FY.out.trans fa)
                clear fa q0 q1 q2 q3 q4 q5 k0 k3
                go_wp2_with fail
                refine HVE.out.mono ?_
                rintro e wb ⟨rfl, fb⟩
                have FB := hide (F0.out.trans (FRO.out.trans (FA.out.trans fb)))
                clear fb HVE
                go_wp2
                go_ret
                exact ⟨by simp, FB.out⟩
              · have hb : (ar != arch) = true := by simpa using hae
                have hw := HWANT.out
                rw [if_neg hae] at hw
                subst hw
                clear hae HWANT HV
                go_wp2_with fail
                refine (HREC.out _).mono ?_
                rintro e wa ⟨rfl, fa⟩
                have HVE := hide (HVER.out wa ((OLV.out.fr0 FY.out).fr0 fa))
                have FA := hide (FY.out.trans fa)
                clear fa q0 q1 q2 q3 q4 q5 k0 k3
                go_wp2_with fail
                refine HVE.out.mono ?_
                rintro e wb ⟨rfl, fb⟩
                have FB := hide (F0.out.trans (FRO.out.trans (FA.out.trans fb)))
                clear fb HVE
                go_wp2
                go_ret
                exact ⟨by simp, FB.out⟩
            | false =>
              obtain ⟨b, off, hao, hcs⟩ := view_at (f := Rul.cs) (n := 3) (fun _ => rfl) (by decide) ((RV0.out.fr0 FRO.out).fr0 f).v hlt
              obtain ⟨x, hx⟩ : ∃ x, x = rs[i] := ⟨_, rfl⟩
              have hxm : x ∈ rs := by rw [hx]; exact List.getElem_mem _
              have c0 : wy.cell? ⟨b, off + i * 3, none⟩ = some (.int .u32 x.number) := by rw [hx]; exact hcs 0 _ (by decide) rfl
              have c1 : wy.cell? ⟨b, off + i * 3 + 1, none⟩ = some (.slice x.ta x.ts.length x.cap) := by rw [hx]; exact hcs 1 _ (by decide) rfl
              have c2 : wy.cell? ⟨b, off + i * 3 + 2, none⟩ = some (.int .u32 x.verdict) := by rw [hx]; exact hcs 2 _ (by decide) rfl
              rw [hao] at y1
              have VX := hide (((RV0.out.fr0 FRO.out).fr0 f).t x hxm)
              have hx6 := (HOK.out x hxm).1
              have HXT := hide (HOK.out x hxm).2
              have HF1 : Hid (fndI num q rs (i + 1) = fitQ num q x) := hide (by rw [fndI_succ hlt hfd, hx])
              have HA1 : Hid (askI els num q rs (i + 1) = if fitQ num q x then x.verdict else askI els num q rs i) := hide (by rw [askI_succ hlt hfd, ← hx])
              have FY := hide f
              clear f kp HEND hfd hcs hx hao
              go_wp2_with fail
              obtain ⟨wx, hwx⟩ : ∃ wx, wx = wy.alloc (.cells #[.int .u32 x.number, .slice x.ta x.ts.length x.cap, .int .u32 x.verdict] 54) := ⟨_, rfl⟩
              have KX : Hid (wx.heap[wy.heap.size]? = some (.cells #[.int .u32 x.number, .slice x.ta x.ts.length x.cap, .int .u32 x.verdict] 54 (0, 0))) := by rw [hwx]; exact heap_alloc_new wy _
              have FX : Hid (Fr nob wy wx) := by rw [hwx]; exact (Fr.refl _ wy).alloc _
              rw [← hwx]
              clear hwx y1 c0 c1 c2
              obtain ⟨N0, hN0⟩ : ∃ N0, N0 = (x.number == num) := ⟨_, rfl⟩
              rw [← hN0]
              have HN0 := hide hN0
              clear hN0
              go_loopw [17, 20] (fun fv y wz => ∃ k : Nat, k ≤ x.ts.length ∧ y = .int .i64 k ∧ fv = .bool (fndK N0 q x.ts k) ∧ Fr nob wx wz) (fun _ y _ => x.ts.length - (intOf y).toNat)
              case atStart => exact ⟨0, Nat.zero_le _, rfl, by rw [fndK_zero], Fr.refl _ _⟩
              case round =>
                rename World => wz
                obtain ⟨k, hk, rfl, rfl, f⟩ := hrel
                have kx := f.heap KX.out (fun h => h)
                have y1 : wz.cell? ⟨wy.heap.size, 1, none⟩ = some (.slice x.ta x.ts.length x.cap) := cell_blk kx rfl
                have FZ := hide f
                by_cases hkl : k < x.ts.length
                · obtain ⟨tb, toff, hta, tcs'⟩ := view_at (f := Tst.cs) (n := 4) (fun _ => rfl) (by decide) ((VX.out.fr0 FX.out).fr0 f) hkl
                  obtain ⟨t, ht⟩ : ∃ t, t = x.ts[k] := ⟨_, rfl⟩
                  have htm : t ∈ x.ts := by rw [ht]; exact List.getElem_mem _
                  have t0 : wz.cell? ⟨tb, toff + k * 4, none⟩ = some (.int .i64 t.arg) := by rw [ht]; exact tcs' 0 _ (by decide) rfl
                  have t1 : wz.cell? ⟨tb, toff + k * 4 + 1, none⟩ = some (.int .i64 t.how) := by rw [ht]; exact tcs' 1 _ (by decide) rfl
                  have t2 : wz.cell? ⟨tb, toff + k * 4 + 2, none⟩ = some (.int .u64 t.value) := by rw [ht]; exact tcs' 2 _ (by decide) rfl
                  have t3 : wz.cell? ⟨tb, toff + k * 4 + 3, none⟩ = some (.int .u64 t.mask) := by rw [ht]; exact tcs' 3 _ (by decide) rfl
                  have hlk : (k : Int) < (x.ts.length : Int) := by omega
                  rw [hta] at y1
                  have hok := HXT.out t htm
                  obtain ⟨a, ha⟩ := Int.eq_ofNat_of_zero_le hok.2.1.1
                  have ha5 : a ≤ 5 := by have := hok.2.1.2; omega
                  have hat : t.arg.toNat = a := by omega
                  rw [ha] at t0
                  have HNX : Hid (fndK N0 q x.ts (k + 1) = (fndK N0 q x.ts k && hldA t (q a))) := hide (by rw [fndK_succ N0 q x.ts k hkl, ← ht, hat])
                  have HH : Hid (∀ wx', Calls Try.prog 17 #[.int .i64 t.how, .int .u64 (q a), .int .u64 t.value, .int .u64 t.mask] wx' fun e w' => e = .returned (.bool (hldA t (q a))) ∧ w' = wx') := fun wx' => kholds_any wx' t hok.2.2.1 hok.2.2.2 (q a)
                  have hka := (FRO.out.trans (FY.out.trans (FX.out.trans f))).heap KA.out (fun h => h)
                  have aq : wz.cell? ⟨w.heap.size + 1, a, none⟩ = some (.int .u64 (q a)) := cell_blk hka (by rw [List.getElem?_toArray]; exact qs_get q a (by omega))
                  have hai0 : (0 : Int) ≤ (a : Int) := by omega
                  have hai : (a : Int) < 6 := by omega
                  clear tcs' ht htm ha hok hat kx f hka hta
                  go_upto_region 28 with fail
                  obtain ⟨wt, hwt⟩ : ∃ wt, wt = wz.alloc (.cells #[.int .i64 (a : Int), .int .i64 t.how, .int .u64 t.value, .int .u64 t.mask] 56) := ⟨_, rfl⟩
                  have kt : wt.heap[wz.heap.size]? = some (.cells #[.int .i64 (a : Int), .int .i64 t.how, .int .u64 t.value, .int .u64 t.mask] 56 (0, 0)) := by rw [hwt]; exact heap_alloc_new wz _
                  have ft : Fr nob wz wt := by rw [hwt]; exact (Fr.refl _ wz).alloc _
                  have s0 : wt.cell? ⟨wz.heap.size, 0, none⟩ = some (.int .i64 (a : Int)) := cell_blk kt rfl
                  have s1 : wt.cell? ⟨wz.heap.size, 1, none⟩ = some (.int .i64 t.how) := cell_blk kt rfl
                  have s2 : wt.cell? ⟨wz.heap.size, 2, none⟩ = some (.int .u64 t.value) := cell_blk kt rfl
                  have s3 : wt.cell? ⟨wz.heap.size, 3, none⟩ = some (.int .u64 t.mask) := cell_blk kt rfl
                  have sq : wt.cell? ⟨w.heap.size + 1, a, none⟩ = some (.int .u64 (q a)) := frC ft aq
                  have FT := hide (FZ.out.trans ft)
                  rw [← hwt]
                  obtain ⟨D, hD⟩ : ∃ D, D = fndK N0 q x.ts k := ⟨_, rfl⟩
                  rw [← hD] at HNX ⊢
                  obtain ⟨G, hG⟩ : ∃ G, G = hldA t (q a) := ⟨_, rfl⟩
                  rw [← hG] at HNX HH
                  clear hwt kt ft t0 t1 t2 t3 aq y1 hD hG
                  go_region_held3 (fun w' => w'.cell? ⟨wz.heap.size, 0, none⟩ = some (.int .i64 (a : Int)) ∧ w'.cell? ⟨wz.heap.size, 1, none⟩ = some (.int .i64 t.how) ∧ w'.cell? ⟨wz.heap.size, 2, none⟩ = some (.int .u64 t.value) ∧ w'.cell? ⟨wz.heap.size, 3, none⟩ = some (.int .u64 t.mask) ∧ w'.cell? ⟨w.heap.size + 1, a, none⟩ = some (.int .u64 (q a)))
                    (first | exact ⟨s0, s1, s2, s3, sq⟩)
                    ((go_at_call 17; refine (HH.out _).mono ?_; rintro e w9 ⟨rfl, rfl⟩))
                  cases D with
                  | false =>
                    go_wp2
                    refine ⟨⟨k + 1, by omega, by go_num, by rw [HNX.out]; rfl, FT.out.like rfl rfl rfl rfl⟩, ?_⟩
                    simp [intOf]
                    omega
                  | true =>
                    go_wp2
                    refine ⟨⟨k + 1, by omega, by go_num, by rw [HNX.out, Bool.true_and], FT.out.like rfl rfl rfl rfl⟩, ?_⟩
                    simp [intOf]
                    omega
                · obtain rfl : k = x.ts.length := by omega
                  have HALL : Hid (fndK N0 q x.ts x.ts.length = fitQ num q x) := hide (by rw [HN0.out, fndK_all])
                  have v2 : wz.cell? ⟨wy.heap.size, 2, none⟩ = some (.int .u32 x.verdict) := cell_blk kx rfl
                  have FN := hide (FY.out.trans (FX.out.trans f))
                  rw [HALL.out]
                  clear f kx
                  cases hfit : fitQ num q x with
                  | true =>
                    have HFT := hide hfit
                    clear hfit
                    go_wp2
                    refine ⟨⟨i + 1, by omega, by go_num, by rw [HF1.out, HFT.out], by rw [HA1.out, HFT.out]; rfl, FN.out⟩, ?_⟩
                    simp [intOf]
                    omega
                  | false =>
                    have HFT := hide hfit
                    clear hfit
                    go_wp2
                    refine ⟨⟨i + 1, by omega, by go_num, by rw [HF1.out, HFT.out], by rw [HA1.out, HFT.out]; rfl, FN.out⟩, ?_⟩
                    simp [intOf]
                    omega
          · have HWANT := hide (HEND.out (.inl (by omega)))
            have k0 : wy.cell? ⟨w.heap.size, 0, none⟩ = some (.int .u32 arch) := cell_blk kp rfl
            have k3 : wy.cell? ⟨w.heap.size, 3, none⟩ = some (.int .u32 oth) := cell_blk kp rfl
            have FY := hide f
            have hge : ¬ (i : Int) < (rs.length : Int) := by omega
            clear f kp HEND
            have ka := (FRO.out.trans FY.out).heap KA.out (fun h => h)
            have q0 : wy.cell? ⟨w.heap.size + 1, 0, none⟩ = some (.int .u64 (q 0)) := cell_blk ka rfl
            have q1 : wy.cell? ⟨w.heap.size + 1, 1, none⟩ = some (.int .u64 (q 1)) := cell_blk ka rfl
            have q2 : wy.cell? ⟨w.heap.size + 1, 2, none⟩ = some (.int .u64 (q 2)) := cell_blk ka rfl
            have q3 : wy.cell? ⟨w.heap.size + 1, 3, none⟩ = some (.int .u64 (q 3)) := cell_blk ka rfl
            have q4 : wy.cell? ⟨w.heap.size + 1, 4, none⟩ = some (.int .u64 (q 4)) := cell_blk ka rfl
            have q5 : wy.cell? ⟨w.heap.size + 1, 5, none⟩ = some (.int .u64 (q 5)) := cell_blk ka rfl
            clear ka
            by_cases hae : ar = arch
            · have hw := HWANT.out
              rw [if_pos hae] at hw
              subst hae
              rw [← hw]
              clear hw HWANT HV
              go_wp2_with fail
              refine (HREC.out _).mono ?_
              rintro e wa ⟨rfl, fa⟩
              have HVE := hide (HVER.out wa ((OLV.out.fr0 FY.out).fr0 fa))
              have FA := hide (FY.out.trans fa)
              clear fa q0 q1 q2 q3 q4 q5 k0 k3
              go_wp2_with fail
              refine HVE.out.mono ?_
              rintro e wb ⟨rfl, fb⟩
              have FB := hide (F0.out.trans (FRO.out.trans (FA.out.trans fb)))
              clear fb HVE
              go_wp2
              go_ret
              exact ⟨by simp, FB.out⟩
            · have hb : (ar != arch) = true := by simpa using hae
              have hw := HWANT.out
              rw [if_neg hae] at hw
              subst hw
              clear hae HWANT HV
              go_wp2_with fail
              refine (HREC.out _).mono ?_
              rintro e wa ⟨rfl, fa⟩
              have HVE := hide (HVER.out wa ((OLV.out.fr0 FY.out).fr0 fa))
              have FA := hide (FY.out.trans fa)
              clear fa q0 q1 q2 q3 q4 q5 k0 k3
              go_wp2_with fail
              refine HVE.out.mono ?_
              rintro e wb ⟨rfl, fb⟩
              have FB := hide (F0.out.trans (FRO.out.trans (FA.out.trans fb)))
              clear fb HVE
              go_wp2
              go_ret
              exact ⟨by simp, FB.out⟩
end Go.Proofs.Ytjgcfffepkmojaa
