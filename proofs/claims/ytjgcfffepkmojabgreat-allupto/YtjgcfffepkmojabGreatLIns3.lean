import Derived.BigQuiet
import Derived.Test.YtjgcfffepkmojabGreatLPol
import Derived.Test.YtjgcfffepkmojabGreatRInst
import Derived.Test.YtjgcfffepkmojabGreatStill
import Derived.StillTailTactics
namespace Go.Proofs.YtjgcfffepkmojabGreat
open Go.RowKit
set_option linter.unusedVariables false

/-! ### Texts that are lent, to be installed -/
theorem info_bytes : (Tryz.prog.info? 32).map (fun i => (i.zero, i.size, i.bytes)) = some (some (.slice none 0 0), 1, 24) := by kernel_rfl
def fullV (s : ByteArray) (g : Nat) : Value := .slice (some ⟨g, 0, none⟩) (s.size + 8) (s.size + 8)
def shrtV (s : ByteArray) (g : Nat) : Value := .slice (some ⟨g, 0, none⟩) s.size (s.size + 8)
def lsV (ss : List ByteArray) (gs : List Nat) : List Value := List.zipWith fullV ss gs
def psV (ss : List ByteArray) (gs : List Nat) : List Value := List.zipWith shrtV ss gs
theorem zip_snoc (f : ByteArray → Nat → Value) (ss : List ByteArray) (gs : List Nat) (i g : Nat) (hg : gs.length = i) (hi : i < ss.length) : List.zipWith f (ss.take (i + 1)) (gs ++ [g]) = List.zipWith f (ss.take i) gs ++ [f ss[i] g] := by
  rw [List.take_succ_eq_append_getElem hi, List.zipWith_append (by simp; omega)]
  rfl
structure LS (w0 w : World) (ss : List ByteArray) (i : Nat) (la : Option Addr) (lc : Nat) (pa : Option Addr) (pc : Nat) (gs : List Nat) : Prop where
  len : gs.length = i
  le : i ≤ ss.length
  list : Own w 32 1 la i lc (lsV (ss.take i) gs)
  prog : Own w 32 1 pa i pc (psV (ss.take i) gs)
  own : ∀ (j : Nat) (s : ByteArray) (g : Nat), ss[j]? = some s → gs[j]? = some g → Own w 5 1 (some ⟨g, 0, none⟩) (s.size + 8) (s.size + 8) (bcs s ++ b201 8)
  new : ∀ g ∈ gs, w0.heap.size ≤ g ∧ g < w.heap.size
  inc : gs.Pairwise (· < ·)
  newL : ∀ x, bk (.slice la i lc) x → w0.heap.size ≤ x
  newP : ∀ x, bk (.slice pa i pc) x → w0.heap.size ≤ x
  ap : ∀ x, bk (.slice la i lc) x → ¬ bk (.slice pa i pc) x
  fr : Fr nob w0 w
theorem LS.fr' {w0 w w' : World} {ss : List ByteArray} {i : Nat} {la pa : Option Addr} {lc pc : Nat} {gs : List Nat} (h : LS w0 w ss i la lc pa pc gs) (f : Fr nob w w') : LS w0 w' ss i la lc pa pc gs :=
  ⟨h.len, h.le, own_fr h.list f (fun _ _ h => h), own_fr h.prog f (fun _ _ h => h), fun j x g h1 h2 => own_fr (h.own j x g h1 h2) f (fun _ _ h => h), fun g hg => ⟨(h.new g hg).1, Nat.lt_of_lt_of_le (h.new g hg).2 f.size⟩, h.inc, h.newL, h.newP, h.ap, h.fr.trans f⟩
/-- One text more: its list is made, put upon both lists. -/
theorem LS.next {w0 wr w1 w4 w6 : World} {ss : List ByteArray} {i : Nat} {la pa : Option Addr} {lc pc : Nat} {gs : List Nat} {s : ByteArray} {o1 o2 : Obj} {gl gp cl cp : Nat} (h : LS w0 wr ss i la lc pa pc gs) (hi : i < ss.length) (hs : s = ss[i])
    (hb : Own w1 5 1 (some ⟨wr.heap.size, 0, none⟩) (s.size + 8) (s.size + 8) (bcs s ++ b201 8)) (f1 : Fr nob wr w1)
    (ol : Own w4 32 1 (some ⟨gl, 0, none⟩) (i + 1) cl (lsV (ss.take i) gs ++ [fullV s wr.heap.size])) (f4 : Fr (bk (.slice la i lc)) (w1.alloc o1) w4) (hl : bk (.slice la i lc) gl ∨ gl = w1.heap.size + 1)
    (op : Own w6 32 1 (some ⟨gp, 0, none⟩) (i + 1) cp (psV (ss.take i) gs ++ [shrtV s wr.heap.size])) (f6 : Fr (bk (.slice pa i pc)) (w4.alloc o2) w6) (hp : bk (.slice pa i pc) gp ∨ gp = w4.heap.size + 1) :
    LS w0 w6 ss (i + 1) (some ⟨gl, 0, none⟩) cl (some ⟨gp, 0, none⟩) cp (gs ++ [wr.heap.size]) := by
  have s1 := f1.size
  have s4 := f4.size
  have s6 := f6.size
  rw [World.size_alloc] at s4 s6
  have sw := h.fr.size
  have hb1 : wr.heap.size < w1.heap.size := own_lt hb (by simp [bk, Value.ownBlock])
  have L0 := own_fr h.list f1 (fun _ _ h => h)
  have P0 := own_fr h.prog f1 (fun _ _ h => h)
  have P4 : Own w4 32 1 pa i pc (psV (ss.take i) gs) := own_fr (P0.alloc o1) f4 (fun x hx e => h.ap x e hx)
  have hgl : gl < w4.heap.size := own_lt ol (by simp [bk, Value.ownBlock])
  have lap : ∀ x, bk (.slice (some ⟨gl, 0, none⟩) (i + 1) cl) x → ¬ bk (.slice pa i pc) x := fun x hx hx2 => by
    simp only [bk, Value.ownBlock, Option.some.injEq] at hx
    rcases hl with e | e
    · rw [← hx] at hx2; exact h.ap gl e hx2
    · have := own_lt P0 hx2; omega
  have u8k : ∀ {e : Nat → Prop} {n c : Nat} {v : ByteArray} {g : Nat} {xs : List Value}, Own wr 5 1 (some ⟨g, 0, none⟩) n c xs → Own w6 5 1 (some ⟨g, 0, none⟩) n c xs := fun {e n c v g xs} ho => by
    have h1 := (own_fr ho f1 (fun _ _ h => h)).alloc o1
    have h4 := own_fr h1 f4 (own_apart h1 (L0.alloc o1) (by decide))
    exact own_fr (h4.alloc o2) f6 (own_apart (h4.alloc o2) (P4.alloc o2) (by decide))
  have hbw : Own w6 5 1 (some ⟨wr.heap.size, 0, none⟩) (s.size + 8) (s.size + 8) (bcs s ++ b201 8) := by
    have h4 := own_fr (hb.alloc o1) f4 (own_apart (hb.alloc o1) (L0.alloc o1) (by decide))
    exact own_fr (h4.alloc o2) f6 (own_apart (h4.alloc o2) (P4.alloc o2) (by decide))
  refine ⟨by simp [h.len], hi, ?_, ?_, ?_, ?_, ?_, ?_, ?_, ?_, ?_⟩
  · unfold lsV at ol ⊢
    rw [zip_snoc _ _ _ _ _ h.len hi, ← hs]
    exact own_fr (ol.alloc o2) f6 lap
  · unfold psV at op ⊢
    rw [zip_snoc _ _ _ _ _ h.len hi, ← hs]
    exact op
  · intro j y gg hy hgg
    rcases Nat.lt_or_ge j i with hj | hj
    · rw [List.getElem?_append_left (by rw [h.len]; exact hj)] at hgg
      exact u8k (e := nob) (v := y) (h.own j y gg hy hgg)
    · rw [List.getElem?_append_right (by rw [h.len]; exact hj), h.len] at hgg
      obtain rfl : j = i := by
        rcases Nat.lt_or_ge i j with h | h
        · rw [List.getElem?_eq_none (by simp; omega)] at hgg; cases hgg
        · omega
      simp only [Nat.sub_self, List.getElem?_cons_zero, Option.some.injEq] at hgg
      rw [List.getElem?_eq_getElem hi, ← hs, Option.some.injEq] at hy
      subst hgg hy
      exact hbw
  · intro gg hgg
    rcases List.mem_append.1 hgg with hm | hm
    · have := h.new gg hm; omega
    · simp at hm; omega
  · rw [List.pairwise_append]
    exact ⟨h.inc, by simp, fun a ha c hc => by simp at hc; have := (h.new a ha).2; omega⟩
  · intro x hx
    simp only [bk, Value.ownBlock, Option.some.injEq] at hx
    rcases hl with e | e
    · have := h.newL gl e; omega
    · omega
  · intro x hx
    simp only [bk, Value.ownBlock, Option.some.injEq] at hx
    rcases hp with e | e
    · have := h.newP gp e; omega
    · omega
  · intro x hx hx2
    simp only [bk, Value.ownBlock, Option.some.injEq] at hx2
    rcases hp with e | e
    · exact lap x hx (by rw [← hx2]; exact e)
    · simp only [bk, Value.ownBlock, Option.some.injEq] at hx
      omega
  · refine ((h.fr.trans f1).alloc o1).step f4 (fun x hx e => by have := h.newL x e; omega) |>.alloc o2 |>.step f6 (fun x hx e => by have := h.newP x e; omega)
#print axioms LS.next
end Go.Proofs.YtjgcfffepkmojabGreat

namespace Go.Proofs.YtjgcfffepkmojabGreat
open Go.RowKit
set_option linter.unusedVariables false

/-! ### Install, as a step -/
def plain0 (ls : List (List Ins)) : List Prg := ls.map (fun l => ⟨none, 0, l⟩)
/-- What Install, Judge answer of a stack of these programs. -/
def insL (ls : List (List Ins)) (ss : List ByteArray) : Int × Int := insA (plain0 ls) ss
def jdgL (ls : List (List Ins)) (r : ByteArray) : Int × Int × Int := jdgA (plain0 ls) r
def afterL (ls : List (List Ins)) (ss : List ByteArray) : List (List Ins) := if (insL ls ss).1 = 0 then ls ++ ss.map (fun s => decL s (s.size / 8)) else ls
/-- The program's stack, whatever it is made of: SK: it reads as these programs, and lies in the blocks S. -/
structure StackAs (SK : World → Value → List (List Ins) → (Nat → Prop) → Prop) : Prop where
  fr : ∀ {w w' : World} {v : Value} {ls : List (List Ins)} {S T : Nat → Prop}, SK w v ls S → Fr T w w' → (∀ x, S x → ¬ T x) → SK w' v ls S
  lt : ∀ {w : World} {v : Value} {ls : List (List Ins)} {S : Nat → Prop}, SK w v ls S → ∀ x, S x → x < w.heap.size
  ty : ∀ {w : World} {v : Value} {ls : List (List Ins)} {S : Nat → Prop}, SK w v ls S → ∀ x, S x → ¬ TW w x
  new : ∀ w : World, Calls Tryz.prog 11 #[] w fun e w' => ∃ a S, e = .returned (.pointer (some a)) ∧ SK w' (.pointer (some a)) [] S ∧ (∀ x, S x → w.heap.size ≤ x) ∧ Fr nob w w'
  install : ∀ (w0 w : World) (v : Value) (ls : List (List Ins)) (S : Nat → Prop) (ss : List ByteArray) (la pa : Option Addr) (lc pc : Nat) (gs : List Nat), SK w v ls S → (∀ x, S x → x < w0.heap.size) → LS w0 w ss ss.length la lc pa pc gs → ss.length ≤ 10000000 → (∀ s ∈ ss, s.size ≤ 10000000) →
    Calls Tryz.prog 36 #[v, .slice pa ss.length pc] w fun e w' => e = .returned (.tuple #[.int .i64 (insL ls ss).1, .int .i64 (insL ls ss).2]) ∧ ∃ S', SK w' v (afterL ls ss) S' ∧ (∀ x, S' x → S x ∨ w.heap.size ≤ x) ∧ Fr S w w'
  judge : ∀ (w : World) (v : Value) (ls : List (List Ins)) (S : Nat → Prop) (r : ByteArray), SK w v ls S → r.size ≤ 10000000 →
    Calls Tryz.prog 14 #[v, .string r] w fun e w' => e = .returned (.tuple #[.int .u32 (jdgL ls r).1, .int .i64 (jdgL ls r).2.1, .int .i64 (jdgL ls r).2.2]) ∧ ∃ S', SK w' v ls S' ∧ (∀ x, S' x → S x ∨ w.heap.size ≤ x) ∧ Fr S w w'
/-- The blocks of the reference's stack. -/
def SOb (g : Nat) (ao : Option Addr) (cap : Nat) (ls : List Prg) (x : Nat) : Prop := x = g ∨ bk (.slice ao ls.length cap) x ∨ ∃ q ∈ ls, bk (.slice q.a q.l.length q.cap) x
theorem SO.frT {w w' : World} {g : Nat} {ao : Option Addr} {cap : Nat} {ls : List Prg} {T : Nat → Prop} (h : SO w g ao cap ls) (f : Fr T w w') (hT : ∀ x, SOb g ao cap ls x → ¬ T x) : SO w' g ao cap ls :=
  ⟨f.heap h.blk (hT g (.inl rfl)), own_fr h.own f (fun x hx => hT x (.inr (.inl hx))), fun q hq => ⟨own_fr (h.p q hq).1 f (fun x hx => hT x (.inr (.inr ⟨q, hq, hx⟩))), (h.p q hq).2⟩⟩
theorem SO.bl {w : World} {g : Nat} {ao : Option Addr} {cap : Nat} {ls : List Prg} (h : SO w g ao cap ls) : ∀ x, SOb g ao cap ls x → x < w.heap.size := fun x hx => by
  rcases hx with rfl | hx | ⟨q, hq, hx⟩
  · exact (Array.getElem?_eq_some_iff.1 h.blk).1
  · exact own_lt h.own hx
  · exact own_lt (h.p q hq).1 hx
theorem own_ty {w : World} {e : TypeId} {size : Nat} {v : Value} {n x : Nat} {xs : List Value} (h : w.ownsRow 0 e size v n xs) (hx : bk v x) (h1 : e ≠ 46) (h2 : e ≠ 64) : ¬ TW w x := fun ⟨c, t, k, hk, ht⟩ => by
  rcases ht with rfl | rfl
  · exact own_ne h hk h1 hx
  · exact own_ne h hk h2 hx
theorem SO.ty {w : World} {g : Nat} {ao : Option Addr} {cap : Nat} {ls : List Prg} (h : SO w g ao cap ls) : ∀ x, SOb g ao cap ls x → ¬ TW w x := fun x hx => by
  rcases hx with rfl | hx | ⟨q, hq, hx⟩
  · rintro ⟨c, t, k, hk, ht⟩
    rw [h.blk] at hk
    simp at hk
    obtain ⟨_, h1, _⟩ := hk
    rcases ht with e | e <;> rw [e] at h1 <;> cases h1
  · exact own_ty h.own hx (by decide) (by decide)
  · exact own_ty (h.p q hq).1 hx (by decide) (by decide)
theorem frame_ft {P : Nat → Prop} {B : Nat} {w wz w' : World} (f : Fr P w wz) (g : Ft B w.heap.size wz w') (hP : ∀ x, B ≤ x → (w.heap.size ≤ x ∨ TW w x) → P x) : Fr P w w' :=
  ⟨g.os.trans f.os, g.tape.trans f.tape, g.output.trans f.output, Nat.le_trans f.size g.size, fun x hx hS => by
    have h1 := f.block x hx hS
    rw [g.block x (Nat.lt_of_lt_of_le hx f.size) (fun hg => hS (hP x hg.1 (hg.2.elim .inl (fun ⟨c', t, k, h2, h3⟩ => .inr ⟨c', t, k, by rw [← h1]; exact h2, h3⟩))))]
    exact h1⟩
theorem tot_l (ls : List Prg) : tot (plain0 (ls.map Prg.l)) = tot ls := by
  induction ls with
  | nil => rfl
  | cons x ls ih =>
    simp only [plain0, List.map_cons, tot, List.sum_cons] at ih ⊢
    rw [ih]
theorem insA_l (ls : List Prg) (ss : List ByteArray) : insL (ls.map Prg.l) ss = insA ls ss := by
  unfold insL insA
  rw [tot_l]
  simp [plain0]
/-- The reference's Install, its answers together. -/
theorem rInst_u (w : World) (g : Nat) (ao : Option Addr) (cap : Nat) (ls : List Prg) (h : SO w g ao cap ls) (hl : ls.length ≤ 8) (so : Option Addr) (sc : Nat) (ss : List ByteArray) (hv : View w so (scs' ss)) (hsl : ss.length ≤ 10000000) (hsz : ∀ s ∈ ss, s.size ≤ 10000000) :
    Calls Tryz.prog 37 #[.pointer (some ⟨g, 0, none⟩), .slice so ss.length sc] w fun e w' => e = .returned (.tuple #[.int .i64 (insA ls ss).1, .int .i64 (insA ls ss).2]) ∧
      ∃ ao' cap' ls', SO w' g ao' cap' ls' ∧ ls'.map Prg.l = afterL (ls.map Prg.l) ss ∧ ls'.length ≤ 8 ∧ (∀ x, SOb g ao' cap' ls' x → SOb g ao cap ls x ∨ w.heap.size ≤ x) ∧ Fr (SOb g ao cap ls) w w' := by
  refine (rInstall_any w g ao cap ls h (by omega) so sc ss hv hsl (fun s hs => by have := hsz s hs; omega)).mono ?_
  rintro e w' ⟨rfl, h1, h2⟩
  refine ⟨rfl, ?_⟩
  have hA := insA_l ls ss
  by_cases h0 : (insA ls ss).1 = 0
  · obtain ⟨ao', cap', qs, hso, hq, hb1, hb2, hf⟩ := h2 h0
    refine ⟨ao', cap', ls ++ qs, hso, ?_, ?_, ?_, hf.mono (fun x _ hx => hx.elim .inl (fun e => .inr (.inl e)))⟩
    · unfold afterL
      rw [hA, if_pos h0, List.map_append, hq]
    · have hqs : qs.length = ss.length := by have := congrArg List.length hq; simpa using this
      have : ls.length + ss.length ≤ 8 := by
        unfold insA at h0
        split at h0
        · rename_i n hn
          have := List.find?_some hn
          unfold insF at this
          simp only at h0
          rw [h0] at this
          simp at this
        · split at h0
          · cases h0
          · omega
      simp; omega
    · intro x hx
      rcases hx with hx | hx | ⟨q, hq', hx⟩
      · exact .inl (.inl hx)
      · rcases hb1 x hx with h | h
        · exact .inl (.inr (.inl h))
        · exact .inr h
      · rcases List.mem_append.1 hq' with h | h
        · exact .inl (.inr (.inr ⟨q, h, hx⟩))
        · exact .inr (hb2 q h x hx)
  · have f := h1 h0
    refine ⟨ao, cap, ls, h.fr0 f, ?_, hl, fun x hx => .inl hx, f.mono (fun _ _ h => h.elim)⟩
    unfold afterL
    rw [hA, if_neg h0]
theorem jdgN_l (ls : List Prg) (r : ByteArray) (n : Nat) : jdgN (plain0 (ls.map Prg.l)) r n = jdgN ls r n := by
  induction n with
  | zero => rfl
  | succ n ih =>
    simp only [jdgN]
    rw [ih]
    cases h : ls[n]? with
    | none => simp [plain0, h]
    | some q => simp [plain0, h]
theorem jdgA_l (ls : List Prg) (r : ByteArray) : jdgL (ls.map Prg.l) r = jdgA ls r := by
  unfold jdgL jdgA
  rw [jdgN_l]
  simp [plain0]
#print axioms rInst_u
end Go.Proofs.YtjgcfffepkmojabGreat

namespace Go.Proofs.YtjgcfffepkmojabGreat
open Go.RowKit
set_option linter.unusedVariables false

/-! ### Install, as a step: the walk -/
/-- What keep turns is no block of these, if they are no new ones, none of the world's own, and not the list that is kept. -/
theorem ks_apart {w : World} {B wb : Nat} {ps : Value} {hs : List Nat} {F : Nat → Prop} {Q : Q4} {row b i r t : Sl} (hI : Inv w B wb ps hs F Q row) {x : Nat} (hlt : x < w.heap.size) (hty : ¬ TW w x) (hsl : ¬ sls b i r t x) : ¬ KS wb row w.heap.size b i r t x := fun h => by
  rcases h with h | h | h | h
  · exact hty (by rw [h]; exact ⟨_, _, _, hI.blk, .inl rfl⟩)
  · obtain ⟨c, g, hy⟩ := hI.row_ty h
    exact hty ⟨c, _, g, hy, .inr rfl⟩
  · omega
  · exact hsl h
/-- A player and its two stacks. -/
structure PL (SK : World → Value → List (List Ins) → (Nat → Prop) → Prop) (w : World) (X : Nat) (v : Value) (g : Nat) (ao : Option Addr) (cap : Nat) (ls : List Prg) (S : Nat → Prop) : Prop where
  blk : w.heap[X]? = some (.cells #[v, .pointer (some ⟨g, 0, none⟩)] 58 (0, 0))
  sk : SK w v (ls.map Prg.l) S
  so : SO w g ao cap ls
  le : ls.length ≤ 8
  ap : ∀ x, S x → x ≠ X ∧ ¬ SOb g ao cap ls x
/-- Its blocks. -/
def PLb (X g : Nat) (ao : Option Addr) (cap : Nat) (ls : List Prg) (S : Nat → Prop) (x : Nat) : Prop := x = X ∨ S x ∨ SOb g ao cap ls x
theorem PL.lt {SK : World → Value → List (List Ins) → (Nat → Prop) → Prop} (hK : StackAs SK) {w : World} {X g cap : Nat} {v : Value} {ao : Option Addr} {ls : List Prg} {S : Nat → Prop} (h : PL SK w X v g ao cap ls S) : ∀ x, PLb X g ao cap ls S x → x < w.heap.size := fun x hx => by
  rcases hx with rfl | hx | hx
  · exact (Array.getElem?_eq_some_iff.1 h.blk).1
  · exact hK.lt h.sk x hx
  · exact h.so.bl x hx
theorem PL.ty {SK : World → Value → List (List Ins) → (Nat → Prop) → Prop} (hK : StackAs SK) {w : World} {X g cap : Nat} {v : Value} {ao : Option Addr} {ls : List Prg} {S : Nat → Prop} (h : PL SK w X v g ao cap ls S) : ∀ x, PLb X g ao cap ls S x → ¬ TW w x := fun x hx => by
  rcases hx with rfl | hx | hx
  · rintro ⟨c, t, k, hk, ht⟩
    rw [h.blk] at hk
    simp at hk
    obtain ⟨_, h1, _⟩ := hk
    rcases ht with e | e <;> rw [e] at h1 <;> cases h1
  · exact hK.ty h.sk x hx
  · exact h.so.ty x hx
theorem PL.fr {SK : World → Value → List (List Ins) → (Nat → Prop) → Prop} (hK : StackAs SK) {w w' : World} {X g cap : Nat} {v : Value} {ao : Option Addr} {ls : List Prg} {S T : Nat → Prop} (h : PL SK w X v g ao cap ls S) (f : Fr T w w') (hT : ∀ x, PLb X g ao cap ls S x → ¬ T x) : PL SK w' X v g ao cap ls S :=
  ⟨f.heap h.blk (hT X (.inl rfl)), hK.fr h.sk f (fun x hx => hT x (.inr (.inl hx))), h.so.frT f (fun x hx => hT x (.inr (.inr hx))), h.le, h.ap⟩

set_option maxRecDepth 100000 in
set_option maxHeartbeats 4000000 in
theorem installed_any (SK : World → Value → List (List Ins) → (Nat → Prop) → Prop) (hK : StackAs SK) (w : World) (B wb : Nat) (ps : Value) (hs : List Nat) (F : Nat → Prop) (hA : At w B wb ps hs F) (X : Nat) (v : Value) (g : Nat)
    (ao : Option Addr) (cap : Nat) (ls : List Prg) (S : Nat → Prop) (hP : PL SK w X v g ao cap ls S) (hPB : ∀ x, PLb X g ao cap ls S x → B ≤ x ∧ ¬ F x)
    (a2 : Option Addr) (c2 : Nat) (ss : List ByteArray) (hv : StrV w B a2 ss) (hlen : hs.length + 4 * ss.length ≤ 90000000) :
    Calls Tryz.prog 13 #[.pointer (some ⟨wb, 0, none⟩), .pointer (some ⟨X, 0, none⟩), .slice a2 ss.length c2] w fun e w' => e = .returned (.bool true) ∧ ∃ hs' F' S' ao' cap' ls', At w' B wb ps hs' F' ∧ hs'.length ≤ hs.length + 4 * ss.length ∧
      PL SK w' X v g ao' cap' ls' S' ∧ (∀ x, PLb X g ao' cap' ls' S' x → PLb X g ao cap ls S x ∨ w.heap.size ≤ x) ∧ (∀ x, F' x → (F x ∨ w.heap.size ≤ x) ∧ ¬ PLb X g ao' cap' ls' S' x) ∧
      Fr (fun x => B ≤ x ∧ (w.heap.size ≤ x ∨ TW w x ∨ S x ∨ SOb g ao cap ls x)) w w' := by
  obtain ⟨k0, hk0, hk1, hk2, hk3⟩ := info_parts info_bytes
  have hsl : ss.length ≤ 10000000 := hv.b.2.2
  have HV := hide hv
  have HK := hide hK
  have HA := hide hA
  have HX := hide hP.blk
  have HS := hide hP.sk
  have HO := hide hP.so
  have hll := hP.le
  have HPB := hide hPB
  have HPLt := hide (hP.lt hK)
  have HSB : Hid (∀ x, S x → B ≤ x ∧ ¬ TW w x ∧ x ≠ X ∧ ¬ SOb g ao cap ls x) := fun x hx => ⟨(hPB x (.inr (.inl hx))).1, hK.ty hP.sk x hx, hP.ap x hx⟩
  have HOB : Hid (∀ x, SOb g ao cap ls x → B ≤ x) := fun x hx => (hPB x (.inr (.inr hx))).1
  clear hv hK hA hP hPB
  go_enter Tryz.func13, Tryz.ntmps13
  go_wp2_with fail
  go_loopw [7, 8, 9] (fun l p y wr => ∃ (i : Nat) (la : Option Addr) (lc : Nat) (pa : Option Addr) (pc : Nat) (gs : List Nat), l = .slice la i lc ∧ p = .slice pa i pc ∧ y = .int .i64 i ∧ LS w wr ss i la lc pa pc gs) (fun _ _ y _ => ss.length - (intOf y).toNat)
  case atStart => exact ⟨0, none, 0, none, 0, [], rfl, rfl, rfl, ⟨rfl, Nat.zero_le _, World.ownsRow_nil _ _ _ _, World.ownsRow_nil _ _ _ _, fun j s g _ h => (by simp at h), fun g h => (by cases h), List.Pairwise.nil, fun x h => (by simp [bk, Value.ownBlock] at h), fun x h => (by simp [bk, Value.ownBlock] at h), fun x h => (by simp [bk, Value.ownBlock] at h), Fr.refl _ _⟩⟩
  case round =>
    obtain ⟨i, la, lc, pa, pc, gs, rfl, rfl, rfl, q⟩ := hrel
    by_cases hlt : i < ss.length
    · obtain ⟨b, off, rfl, hc⟩ := view_at (f := fun s : ByteArray => [Value.string s]) (n := 1) (fun _ => rfl) (by decide) HV.out.v hlt
      obtain ⟨s, hs0⟩ : ∃ s, s = ss[i] := ⟨_, rfl⟩
      have hsm : s.size ≤ 10000000 := HV.out.s s (by rw [hs0]; exact List.getElem_mem hlt)
      have vw : w.cell? ⟨b, off + i, none⟩ = some (.string s) := by
        have := hc 0 (.string s) (by decide) (by rw [← hs0]; rfl)
        rw [show off + i * 1 + 0 = off + i by omega] at this
        exact this
      have VW := hide vw
      have v0 := frc q.fr vw
      clear vw
      have hlti : (i : Int) < (ss.length : Int) := by omega
      have HQ := hide q
      have HS0 := hide hs0
      clear hc q hs0
      go_wp2_with fail
      refine (lent_any wr s (by omega)).mono ?_
      rintro e w1 ⟨rfl, ob, f1⟩
      have v1 := frc f1 v0
      have LO := hide ((own_fr HQ.out.list f1 (fun _ _ h => h)).alloc (.cells #[fullV s wr.heap.size] 32))
      have OB := hide ob
      have F1 := hide f1
      clear ob f1
      go_upto_region 8 with (at_builtin; refine wpList_append_keep _ rfl _ _ 93 rfl 32 k0 _ 1 24 Tryz.underlying93 hk0 hk1 hk2 hk3 rfl (by decide) la i lc (lsV (ss.take i) gs) rfl LO.out ⟨w1.heap.size, 0, none⟩ 1 1 [fullV s wr.heap.size] rfl rfl ?c1 ?c2 (by decide) ?c3 ?c4 (w1.heap.size + 1) (World.size_alloc _ _) ?_)
      case c1 => exact World.news_of_block (heap_alloc_new w1 _)
      case c2 => intro u hu; simp at hu; subst hu; rfl
      case c3 => unfold maxLen; omega
      case c4 => omega
      intro gl cl w4 ol _ f4 hl
      have fW4 : Fr nob w w4 := ((HQ.out.fr.trans F1.out).alloc _).step f4 (fun x hx e => by have := HQ.out.newL x e; omega)
      have v4 := frc fW4 VW.out
      have p4 : Own w4 32 1 pa i pc (psV (ss.take i) gs) := own_fr ((own_fr HQ.out.prog F1.out (fun _ _ h => h)).alloc _) f4 (fun x hx e => HQ.out.ap x e hx)
      have PO4 := hide (p4.alloc (.cells #[shrtV s wr.heap.size] 32))
      have OL := hide ol
      have F4 := hide f4
      have HL := hide hl
      have l0 : (0 : Int) ≤ (s.size : Int) := by omega
      have l1 : (s.size : Int) ≤ (s.size : Int) + 8 := by omega
      have l2 : (s.size : Int) ≤ ((s.size + 8 : Nat) : Int) := by omega
      clear fW4 p4 ol f4 hl v0 v1 LO
      go_wp2_with (at_builtin; refine wpList_append_keep _ rfl _ _ 93 rfl 32 k0 _ 1 24 Tryz.underlying93 hk0 hk1 hk2 hk3 rfl (by decide) pa i pc (psV (ss.take i) gs) rfl PO4.out ⟨w4.heap.size, 0, none⟩ 1 1 [shrtV s wr.heap.size] rfl rfl ?d1 ?d2 (by decide) ?d3 ?d4 (w4.heap.size + 1) (World.size_alloc _ _) ?_)
      case d1 => exact World.news_of_block (heap_alloc_new w4 _)
      case d2 => intro u hu; simp at hu; subst hu; rfl
      case d3 => unfold maxLen; omega
      case d4 => omega
      intro gp cp w6 op _ f6 hp
      have N6 := hide (HQ.out.next hlt HS0.out OB.out F1.out OL.out F4.out HL.out op f6 hp)
      clear op f6 hp
      go_wp2
      refine ⟨⟨i + 1, _, _, _, _, _, rfl, rfl, by go_num, N6.out⟩, ?_⟩
      simp [intOf]; omega
    · obtain rfl : i = ss.length := by have := q.le; omega
      have kX := q.fr.heap HX.out (fun h => h)
      have x0 : wr.cell? ⟨X, 0, none⟩ = some v := cell_blk kX rfl
      have hXl : X < wr.heap.size := World.block_lt_of_cell? wr _ x0
      have hXw : X < w.heap.size := (Array.getElem?_eq_some_iff.1 HX.out).1
      have hSl := HK.out.lt HS.out
      have hOl := HO.out.bl
      have hcall := HK.out.install w wr v (ls.map Prg.l) S ss la pa lc pc gs (HK.out.fr HS.out q.fr (fun _ _ h => h)) hSl q hsl HV.out.s
      rw [insA_l] at hcall
      have HCALL := hide hcall
      have HQ := hide q
      have KX := hide kX
      have HSL := hide hSl
      have HOL := hide hOl
      clear hcall q kX hSl hOl hlt
      go_wp2_with fail
      refine HCALL.out.mono ?_
      rintro e w1 ⟨rfl, S1, hS1, hsub1, f1⟩
      have q := HQ.out
      have kX1 := f1.heap KX.out (fun h => (HSB.out X h).2.2.1 rfl)
      have y1 : w1.cell? ⟨X, 1, none⟩ = some (.pointer (some ⟨g, 0, none⟩)) := cell_blk kX1 rfl
      have so1 : SO w1 g ao cap ls := (HO.out.fr0 q.fr).frT f1 (fun x hx hS => (HSB.out x hS).2.2.2 hx)
      have hv1 : StrV w1 B a2 ss := HV.out.fr ((q.fr.mono (T := up B) (fun _ _ h => h.elim)).trans (f1.mono (fun x _ h => (HSB.out x h).1)))
      have hri := rInst_u w1 g ao cap ls so1 hll a2 c2 ss hv1.v hsl HV.out.s
      have HRI := hide hri
      have S1H := hide hS1
      have SB1 := hide hsub1
      have F1 := hide f1
      have KX1 := hide kX1
      have HV1 := hide hv1
      clear hri hS1 hsub1 f1 kX1 so1 hv1 q HCALL x0
      go_wp2_with fail
      refine HRI.out.mono ?_
      rintro e w2 ⟨rfl, ao', cap', ls', so2, hl2, hle2, hsub2, f2⟩
      have q := HQ.out
      have s1 := F1.out.size
      have s2 := f2.size
      have hOold : ∀ x, SOb g ao cap ls x → x < w.heap.size := HOL.out
      have hOX : ¬ SOb g ao cap ls X := fun h => by
        rcases h with h | h | ⟨p, hp, h⟩
        · have h1 := HO.out.blk; rw [← h, HX.out] at h1; simp at h1
        · exact own_ne HO.out.own HX.out (by decide) h
        · exact own_ne (HO.out.p p hp).1 HX.out (by decide) h
      have kX2 := f2.heap KX1.out hOX
      have sk2 : SK w2 v (afterL (ls.map Prg.l) ss) S1 := HK.out.fr S1H.out f2 (fun x hx hO => by
        rcases SB1.out x hx with h | h
        · exact (HSB.out x h).2.2.2 hO
        · have := hOold x hO; have := q.fr.size; omega)
      have fw2 : ∀ x, w.heap.size ≤ x → x < wr.heap.size → w2.heap[x]? = wr.heap[x]? := fun x h1 h2 => by
        rw [f2.block x (by omega) (fun h => by have := hOold x h; omega), F1.out.block x h2 (fun h => by have := HSL.out x h; omega)]
      have own2 : ∀ {e : TypeId} {size n : Nat} {v : Value} {xs : List Value}, wr.ownsRow 0 e size v n xs → (∀ x, bk v x → w.heap.size ≤ x) → w2.ownsRow 0 e size v n xs := fun {e size n v xs} ho hn =>
        own_fr (own_fr ho F1.out (fun x hx h => by have := HSL.out x h; have := hn x hx; omega)) f2 (fun x hx h => by have := hOold x h; have := hn x hx; omega)
      have li2 := own2 q.list q.newL
      have pr2 := own2 q.prog q.newP
      rw [List.take_length] at li2 pr2
      have ow2 : ∀ (j : Nat) (s : ByteArray) (gg : Nat), ss[j]? = some s → gs[j]? = some gg → Own w2 5 1 (some ⟨gg, 0, none⟩) (s.size + 8) (s.size + 8) (bcs s ++ b201 8) := fun j s gg h1 h2 =>
        own2 (q.own j s gg h1 h2) (fun x hx => by simp only [bk, Value.ownBlock, Option.some.injEq] at hx; have := (q.new gg (List.mem_of_getElem? h2)).1; omega)
      have FR2 : Fr (fun x => B ≤ x ∧ (w.heap.size ≤ x ∨ TW w x ∨ S x ∨ SOb g ao cap ls x)) w w2 :=
        ((q.fr.mono (fun _ _ h => h.elim)).trans (F1.out.mono (fun x _ h => ⟨(HSB.out x h).1, .inr (.inr (.inl h))⟩))).trans (f2.mono (fun x _ h => ⟨HOB.out x h, .inr (.inr (.inr h))⟩))
      obtain ⟨row, hI⟩ := HA.out.inv
      have hB := HA.out.le
      have hFl := HA.out.lt
      have PL2 : PL SK w2 X v g ao' cap' ls' S1 := ⟨kX2, by rw [hl2]; exact sk2, so2, hle2, fun x hx => by
        have h1 := HK.out.lt S1H.out x hx
        have h2 := q.fr.size
        rcases SB1.out x hx with h | h
        · have h3 := HSL.out x h
          refine ⟨(HSB.out x h).2.2.1, fun hO => ?_⟩
          rcases hsub2 x hO with h4 | h4
          · exact (HSB.out x h).2.2.2 h4
          · omega
        · refine ⟨by omega, fun hO => ?_⟩
          rcases hsub2 x hO with h4 | h4
          · have := hOold x h4; omega
          · omega⟩
      have SUB : Hid (∀ x, PLb X g ao' cap' ls' S1 x → PLb X g ao cap ls S x ∨ (wr.heap.size ≤ x ∧ x < w2.heap.size)) := fun x hx => by
        have h0 := PL2.lt HK.out x hx
        rcases hx with h | h | h
        · exact .inl (.inl h)
        · rcases SB1.out x h with h | h
          · exact .inl (.inr (.inl h))
          · exact .inr ⟨h, h0⟩
        · rcases hsub2 x h with h | h
          · exact .inl (.inr (.inr h))
          · exact .inr ⟨by omega, h0⟩
      have hI1 := hI.fr q.fr (fun h => h) (fun _ _ h => h) (fun _ _ h => h)
      have hI1' := hI1.fr F1.out (fun h => (HSB.out wb h).2.1 ⟨_, _, _, hI.blk, .inl rfl⟩) (fun x hx h => by
        obtain ⟨c, k, hy⟩ := hI.row_ty hx
        exact (HSB.out x h).2.1 ⟨c, _, k, hy, .inr rfl⟩) (fun x hx h => (HPB.out x (.inr (.inl h))).2 hx)
      have hI2 : Inv w2 B wb ps hs F anyQ row := hI1'.fr f2 (fun h => HO.out.ty wb h ⟨_, _, _, hI.blk, .inl rfl⟩) (fun x hx h => by
        obtain ⟨c, k, hy⟩ := hI.row_ty hx
        exact HO.out.ty x h ⟨c, _, k, hy, .inr rfl⟩) (fun x hx h => (HPB.out x (.inr (.inr h))).2 hx)
      obtain ⟨H0, hH0⟩ : ∃ H, H = wr.heap.size := ⟨_, rfl⟩
      obtain ⟨H2, hH2⟩ : ∃ H, H = w2.heap.size := ⟨_, rfl⟩
      have HWH : Hid (w.heap.size ≤ H0 ∧ H0 ≤ H2) := (show w.heap.size ≤ H0 ∧ H0 ≤ H2 by have := q.fr.size; constructor <;> omega)
      have hgl := q.len
      have GN : Hid (∀ gg ∈ gs, w.heap.size ≤ gg ∧ gg < H0) := fun gg hg => by rw [hH0]; exact q.new gg hg
      have GI := hide q.inc
      rw [← hH0, ← hH2] at SUB
      have INV2 : Hid (Inv w2 B wb ps hs (fun x => (F x ∨ H2 ≤ x ∨ ∃ j, j < 0 ∧ gs[j]? = some x) ∧ x < w2.heap.size) anyQ row) := hI2.mono (fun x hx h => ⟨.inl h, hx⟩) (fun _ _ _ _ _ h => h)
      have LI2 := hide li2
      have PR2 := hide pr2
      have OW2 := hide ow2
      have HPL2 := hide PL2
      have FR2' := hide FR2
      have HFL := hide hFl
      have FT2 : Hid (Ft B w.heap.size w2 w2) := Fr.refl _ _
      have hH2' : H2 ≤ w2.heap.size := by omega
      clear so2 hl2 hle2 hsub2 f2 q s1 s2 hOold hOX kX2 sk2 fw2 own2 li2 pr2 ow2 FR2 hI hFl PL2 hI1 hI1' hI2 HRI S1H SB1 F1 KX1 HV1 HQ KX y1 hH0 hH2
      go_wp2_with fail
      go_loopw [15, 16] (fun ok y wz => ∃ (i : Nat) (hs' : List Nat) (row' : Sl), i ≤ ss.length ∧ ok = .bool true ∧ y = .int .i64 i ∧ Inv wz B wb ps hs' (fun x => (F x ∨ H2 ≤ x ∨ ∃ j, j < i ∧ gs[j]? = some x) ∧ x < wz.heap.size) anyQ row' ∧ hs'.length = hs.length + 4 * i ∧
        Own wz 32 1 la ss.length lc (lsV ss gs) ∧ Own wz 32 1 pa ss.length pc (psV ss gs) ∧ (∀ (j : Nat) (s : ByteArray) (gg : Nat), i ≤ j → ss[j]? = some s → gs[j]? = some gg → Own wz 5 1 (some ⟨gg, 0, none⟩) (s.size + 8) (s.size + 8) (bcs s ++ b201 8)) ∧
        PL SK wz X v g ao' cap' ls' S1 ∧ H2 ≤ wz.heap.size ∧ Ft B w.heap.size w2 wz) (fun _ y _ => ss.length - (intOf y).toNat)
      case atStart => exact ⟨0, hs, row, Nat.zero_le _, rfl, rfl, INV2.out, by omega, LI2.out, PR2.out, fun j s gg _ => OW2.out j s gg, HPL2.out, hH2', FT2.out⟩
      case round =>
        clear INV2 LI2 PR2 OW2 HPL2 hH2' FT2
        rename World => wz
        obtain ⟨i, hs', row', hi, rfl, rfl, hinv, hlh, li, pr, ow, pl, hH, ft⟩ := hrel
        by_cases hlt : i < ss.length
        · have hgi : i < gs.length := by omega
          obtain ⟨s, hs0⟩ : ∃ s, s = ss[i] := ⟨_, rfl⟩
          obtain ⟨gg, hg⟩ : ∃ gg, gg = gs[i] := ⟨_, rfl⟩
          have hse : ss[i]? = some s := by rw [hs0]; exact List.getElem?_eq_getElem hlt
          have hge : gs[i]? = some gg := by rw [hg]; exact List.getElem?_eq_getElem hgi
          have hgm : gg ∈ gs := List.mem_of_getElem? hge
          have hsm : s.size ≤ 10000000 := HV.out.s s (List.mem_of_getElem? hse)
          have hvz : StrV wz B a2 ss := HV.out.fr ((FR2'.out.mono (fun _ _ h => h.1)).trans ft.up)
          obtain ⟨b, off, rfl, hc⟩ := view_at (f := fun s : ByteArray => [Value.string s]) (n := 1) (fun _ => rfl) (by decide) hvz.v hlt
          have vw : wz.cell? ⟨b, off + i, none⟩ = some (.string s) := by
            have := hc 0 (.string s) (by decide) (by rw [← hs0]; rfl)
            rw [show off + i * 1 + 0 = off + i by omega] at this
            exact this
          obtain ⟨gl, rfl⟩ := own_some li hlt
          obtain ⟨gp, rfl⟩ := own_some pr hlt
          have l0 : wz.cell? ⟨gl, i, none⟩ = some (.slice (some ⟨gg, 0, none⟩) (s.size + 8) (s.size + 8)) := own_get li (by
            unfold lsV
            rw [List.getElem?_zipWith, hse, hge]
            rfl)
          have p0 : wz.cell? ⟨gp, i, none⟩ = some (.slice (some ⟨gg, 0, none⟩) s.size (s.size + 8)) := own_get pr (by
            unfold psV
            rw [List.getElem?_zipWith, hse, hge]
            rfl)
          have hlti : (i : Int) < (ss.length : Int) := by omega
          have og := ow i s gg (Nat.le_refl _) hse hge
          have HST := hide (still_any wz.drew gg (s.size + 8) s (by omega) (own_fr og ((Fr.refl nob wz).drew) (fun _ _ h => h)))
          have VW := hide vw
          have L0 := hide l0
          have P0 := hide p0
          have OG := hide og
          have HINV := hide hinv
          have LI := hide li
          have PR := hide pr
          have OW := hide ow
          have PLZ := hide pl
          have FT := hide ft
          have HSE := hide hse
          have HGE := hide hge
          have HGM := hide hgm
          clear hc hvz hinv li pr ow og pl ft hse hge hgm hs0 hg
          go_wp2_with fail
          go_still_tail 8, (by kernel_rfl)
          change wpList _ _ _ _ _ (World.drew _)
          go_wp2_with fail
          refine HST.out.mono ?_
          rintro e w3 ⟨rfl, f3⟩
          have f03 : Fr nob wz w3 := ((Fr.refl nob wz).drew).trans f3
          have v3 := frc f03 VW.out
          have p3 := frc f03 P0.out
          have F03 := hide f03
          clear f3 f03 HST vw p0 l0
          go_wp2_with fail
          go_quiet (fail)
          obtain ⟨wq, hwq⟩ : ∃ wq, wq = w3.drewN nq := ⟨_, rfl⟩
          rw [← hwq]
          have f04 : Fr nob wz wq := by rw [hwq]; exact F03.out.drewN _
          have l4 := frc f04 L0.out
          have s4 := f04.size
          have hIq := HINV.out.fr f04 (fun h => h) (fun _ _ h => h) (fun _ _ h => h)
          have hgn := GN.out gg HGM.out
          have hwh := HWH.out
          have oq := own_fr OG.out f04 (fun _ _ h => h)
          have hgk := keep_b wq B wb ps hs' _ row' hIq (fun x hx => by have := hx.2; omega) (by omega) (by omega) (some ⟨gg, 0, none⟩) (s.size + 8) (s.size + 8) _ oq (by omega) (fun y hy => by
            simp only [bk, Value.ownBlock, Option.some.injEq] at hy
            subst hy
            refine ⟨by omega, fun h => ?_⟩
            rcases h.1 with h1 | h1 | ⟨j, hj, h1⟩
            · have := HFL.out _ h1; omega
            · omega
            · have hp : gs[j]'(by omega) < gs[i] := List.pairwise_iff_getElem.1 GI.out j i (by omega) hgi hj
              have e1 := HGE.out
              rw [List.getElem?_eq_getElem hgi, Option.some.injEq] at e1
              rw [List.getElem?_eq_getElem (show j < gs.length by omega), Option.some.injEq] at h1
              omega)
          have HGK := hide hgk
          have F04 := hide f04
          have OQ := hide oq
          clear hgk hIq f04 oq v3 p3 hwq F03
          go_wp2_with fail
          refine HGK.out.mono ?_
          rintro e w5 ⟨rfl, hs5, row5, hI5, hl5, hh5, hI0, fk, fuu⟩
          have fu : Ft B w.heap.size _ _ := fuu w.heap.size (fun x hx => by simp only [bk, Value.ownBlock, Option.some.injEq] at hx; omega)
          have fa : Fr nob wq (wq.alloc (.cells #[.slice (some ⟨gg, 0, none⟩) (s.size + 8) (s.size + 8), .slice none 0 0, .slice none 0 0, .slice none 0 0, .int .i64 0] 74)) := (Fr.refl _ wq).alloc _
          have fqa := F04.out.trans fa
          have l5 := own_ks (own_fr LI.out fqa (fun _ _ h => h)) hI0 hh5 fk (by decide) (by decide) (by decide) (fun x hx hS => own_apart (own_fr LI.out F04.out (fun _ _ h => h)) OQ.out (by decide) x hx (sls_b hS))
          have p5 := own_ks (own_fr PR.out fqa (fun _ _ h => h)) hI0 hh5 fk (by decide) (by decide) (by decide) (fun x hx hS => own_apart (own_fr PR.out F04.out (fun _ _ h => h)) OQ.out (by decide) x hx (sls_b hS))
          have g5 : ∀ (j : Nat) (y : ByteArray) (gk : Nat), i + 1 ≤ j → ss[j]? = some y → gs[j]? = some gk → Own w5 5 1 (some ⟨gk, 0, none⟩) (y.size + 8) (y.size + 8) (bcs y ++ b201 8) := fun j y gk hj h1 h2 =>
            own_ks (own_fr (OW.out j y gk (by omega) h1 h2) fqa (fun _ _ h => h)) hI0 hh5 fk (by decide) (by decide) (by decide) (fun z hz hS => by
              have hS' := sls_b hS
              simp only [bk, Value.ownBlock, Option.some.injEq] at hz hS'
              have hjl := (List.getElem?_eq_some_iff.1 h2).1
              have hp : gs[i] < gs[j] := List.pairwise_iff_getElem.1 GI.out i j hgi hjl (by omega)
              have e1 := HGE.out
              rw [List.getElem?_eq_getElem hgi, Option.some.injEq] at e1
              rw [List.getElem?_eq_getElem hjl, Option.some.injEq] at h2
              omega)
          have plq := PLZ.out.fr HK.out F04.out (fun _ _ h => h)
          have hIq := HINV.out.fr F04.out (fun h => h) (fun _ _ h => h) (fun _ _ h => h)
          have pl5 : PL SK w5 X v g ao' cap' ls' S1 := (plq.fr HK.out fa (fun _ _ h => h)).fr HK.out fk (fun x hx => ks_apart hIq (plq.lt HK.out x hx) (plq.ty HK.out x hx) (fun hS => by
            have hS' := sls_b hS
            simp only [bk, Value.ownBlock, Option.some.injEq] at hS'
            subst hS'
            rcases SUB.out _ hx with h | h
            · have := HPLt.out _ h; omega
            · omega))
          have s5 := fu.size
          have INV5 : Hid (Inv w5 B wb ps hs5 (fun x => (F x ∨ H2 ≤ x ∨ ∃ j, j < i + 1 ∧ gs[j]? = some x) ∧ x < w5.heap.size) anyQ row5) := hI5.mono (fun y hy h => ⟨by
            rcases h.1 with h | h | h
            · rcases h.1 with h | h | ⟨j, hj, h⟩
              · exact .inl h
              · exact .inr (.inl h)
              · exact .inr (.inr ⟨j, by omega, h⟩)
            · exact .inr (.inl (by omega))
            · exact .inr (.inr ⟨i, by omega, by simp only [bk, Value.ownBlock, Option.some.injEq] at h; rw [← h]; exact HGE.out⟩), h.2⟩) (fun _ _ _ _ _ h => h)
          have F5 : Hid (Ft B w.heap.size w2 w5) := (FT.out.trans (Ft.ofNob (S0 := w.heap.size) F04.out) (Nat.le_refl _)).trans fu (Nat.le_refl _)
          have L5 := hide l5
          have P5 := hide p5
          have G5 := hide g5
          have PL5 := hide pl5
          have HL5 : Hid (hs5.length = hs.length + 4 * (i + 1)) := (show hs5.length = hs.length + 4 * (i + 1) by omega)
          have H5 : Hid (H2 ≤ w5.heap.size) := (show H2 ≤ w5.heap.size by omega)
          clear hI5 hI0 hh5 fk fu fuu fa fqa l5 p5 g5 plq hIq pl5 hl5 s5 HGK l4
          go_wp2
          refine ⟨⟨i + 1, hs5, row5, by omega, rfl, by go_num, INV5.out, HL5.out, L5.out, P5.out, G5.out, PL5.out, H5.out, F5.out⟩, ?_⟩
          simp [intOf]; omega
        · obtain rfl : i = ss.length := by omega
          have RES : Hid (∃ hs' F' S' ao' cap' ls', At wz B wb ps hs' F' ∧ hs'.length ≤ hs.length + 4 * ss.length ∧
              PL SK wz X v g ao' cap' ls' S' ∧ (∀ x, PLb X g ao' cap' ls' S' x → PLb X g ao cap ls S x ∨ w.heap.size ≤ x) ∧ (∀ x, F' x → (F x ∨ w.heap.size ≤ x) ∧ ¬ PLb X g ao' cap' ls' S' x) ∧
              Fr (fun x => B ≤ x ∧ (w.heap.size ≤ x ∨ TW w x ∨ S x ∨ SOb g ao cap ls x)) w wz) := by
            have hwh := HWH.out
            refine ⟨hs', _, S1, ao', cap', ls', ⟨⟨row', hinv⟩, fun x hx => hx.2, by omega⟩, by omega, pl, fun x hx => ?_, fun x hx => ⟨?_, fun hp => ?_⟩, ?_⟩
            · rcases SUB.out x hx with h | h
              · exact .inl h
              · exact .inr (by omega)
            · rcases hx.1 with h | h | ⟨j, hj, h⟩
              · exact .inl h
              · exact .inr (by omega)
              · exact .inr (GN.out x (List.mem_of_getElem? h)).1
            · rcases hx.1 with h | h | ⟨j, hj, h⟩
              · have := HFL.out x h
                rcases SUB.out x hp with h2 | h2
                · exact (HPB.out x h2).2 h
                · omega
              · rcases SUB.out x hp with h2 | h2
                · have := HPLt.out x h2; omega
                · omega
              · have := GN.out x (List.mem_of_getElem? h)
                rcases SUB.out x hp with h2 | h2
                · have := HPLt.out x h2; omega
                · omega
            · exact frame_ft FR2'.out ft (fun x hx h => ⟨hx, h.elim .inl (fun h => .inr (.inl h))⟩)
          clear hinv li pr ow pl ft hlh
          go_wp2
          go_ret
          exact ⟨rfl, RES.out⟩
#print axioms installed_any
end Go.Proofs.YtjgcfffepkmojabGreat
