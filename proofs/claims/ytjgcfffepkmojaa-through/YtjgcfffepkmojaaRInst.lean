import Derived.Test.YtjgcfffepkmojaaRJudge
import Derived.Test.YtjgcfffepkmojaaRCheck
namespace Go.Proofs.Ytjgcfffepkmojaa
open Go.RowKit
set_option linter.unusedVariables false

/-! ### Installing -/
theorem decI_ok (s : ByteArray) (i : Nat) : (decI s i).ok := by
  have h0 := byt_bd s i
  have h1 := byt_bd s (i + 1)
  have h2 := byt_bd s (i + 2)
  have h3 := byt_bd s (i + 3)
  have h4 := wd_bd s (i + 4)
  exact ⟨⟨by show 0 ≤ byt s i + byt s (i + 1) * 256; omega, by show byt s i + byt s (i + 1) * 256 < 65536; omega⟩, h2, h3, h4⟩
theorem decL_ok (s : ByteArray) (n : Nat) : ∀ x ∈ decL s n, x.ok := by
  intro x hx
  simp only [decL, List.mem_map] at hx
  obtain ⟨k, _, rfl⟩ := hx
  exact decI_ok s _
/-- What is wrong with a program of bytes. -/
def okP (s : ByteArray) : Int := if s.size % 8 ≠ 0 ∨ s.size = 0 ∨ 32768 < s.size then 1 else (chk (decL s (s.size / 8))).1
def tot (ls : List Prg) : Nat := (ls.map (fun p => p.l.length)).sum
theorem tot_app (a b : List Prg) : tot (a ++ b) = tot a + tot b := by simp [tot]
def insF (ss : List ByteArray) (n : Nat) : Bool := okP (ss.getD n ⟨#[]⟩) != 0
/-- What Install answers. -/
def insA (ls : List Prg) (ss : List ByteArray) : Int × Int :=
  match (List.range ss.length).find? (insF ss) with
  | some n => (okP (ss.getD n ⟨#[]⟩), (n : Int))
  | none => if 8 < ls.length + ss.length ∨ 8192 < tot ls + (ss.map (fun s => s.size / 8)).sum then (12, 0) else (0, 0)
theorem insA_bad {ls : List Prg} {ss : List ByteArray} {n : Nat} (hn : n < ss.length) (hb : ∀ j, j < n → insF ss j = false) (h : okP ss[n] ≠ 0) : insA ls ss = (okP ss[n], (n : Int)) := by
  have e : ss.getD n ⟨#[]⟩ = ss[n] := by simp [List.getD, hn]
  unfold insA
  rw [find_first (insF ss) ss.length n hn (by unfold insF; rw [e]; simp [h]) hb]
  simp only [e]
/-- A program of the stack. -/
def PO (w : World) (q : Prg) : Prop := Own w 32 4 q.a q.l.length q.cap (flat q.l) ∧ Good q.l
theorem SO.tot_le {w : World} {g : Nat} {ao : Option Addr} {cap : Nat} {ls : List Prg} (h : ∀ x ∈ ls, Good x.l) : tot ls ≤ ls.length * 4096 := by
  induction ls with
  | nil => simp [tot]
  | cons x l ih =>
    have h1 := (h x (by simp)).le
    have h2 := ih (fun y hy => h y (by simp [hy]))
    simp only [tot, List.map_cons, List.sum_cons, List.length_cons] at h2 ⊢
    omega
/-- How far Install has come. -/
structure IL (w wr : World) (ss : List ByteArray) (n : Nat) (aa : Option Addr) (ca : Nat) (qs : List Prg) : Prop where
  cnt : qs.length = n
  own : Own wr 22 1 aa n ca (pcs qs)
  lo : ∀ x, bk (.slice aa n ca) x → w.heap.size ≤ x
  q : ∀ q ∈ qs, PO wr q ∧ ∀ x, bk (.slice q.a q.l.length q.cap) x → w.heap.size ≤ x
  e : ∀ j, j < n → insF ss j = false
  l : qs.map Prg.l = (ss.take n).map (fun s => decL s (s.size / 8))
  f : Fr nob w wr
  z : n = 0 → aa = none ∧ ca = 0
theorem pcs_app (a b : List Prg) : pcs (a ++ b) = pcs a ++ pcs b := by
  induction a with
  | nil => rfl
  | cons x l ih => show x.v :: pcs (l ++ b) = x.v :: (pcs l ++ pcs b); rw [ih]
theorem tot_map {a : List Prg} {b : List ByteArray} (h : a.map Prg.l = b.map (fun s => decL s (s.size / 8))) : tot a = (b.map (fun s => s.size / 8)).sum := by
  have : (a.map Prg.l).map List.length = (b.map (fun s => decL s (s.size / 8))).map List.length := by rw [h]
  rw [List.map_map, List.map_map] at this
  unfold tot
  rw [show (a.map fun p => p.l.length) = a.map (List.length ∘ Prg.l) from rfl, this]
  congr 1
  apply List.map_congr_left
  intro s _
  exact decL_len s _
theorem insA_none {ls : List Prg} {ss : List ByteArray} (h : ∀ j, j < ss.length → insF ss j = false) : insA ls ss = if 8 < ls.length + ss.length ∨ 8192 < tot ls + (ss.map (fun s => s.size / 8)).sum then (12, 0) else (0, 0) := by
  unfold insA
  rw [find_none _ _ h]
theorem info_insns : (Try.prog.info? 22).map (fun i => (i.zero, i.size, i.bytes)) = some (some (.slice none 0 0), 1, 24) := by kernel_rfl
theorem IL.start (w : World) (ss : List ByteArray) : IL w w ss 0 none 0 [] :=
  ⟨rfl, World.ownsRow_nil _ _ _ _, fun x hx => (by simp [bk, Value.ownBlock] at hx), fun q hq => (by cases hq), fun j hj => absurd hj (Nat.not_lt_zero _), rfl, Fr.refl _ w, fun _ => ⟨rfl, rfl⟩⟩
theorem IL.fr {w wr wx : World} {ss : List ByteArray} {n : Nat} {aa : Option Addr} {ca : Nat} {qs : List Prg} (h : IL w wr ss n aa ca qs) (f : Fr nob wr wx) : IL w wx ss n aa ca qs :=
  ⟨h.cnt, own_fr h.own f (fun _ _ h => h), h.lo, fun q hq => ⟨⟨own_fr (h.q q hq).1.1 f (fun _ _ h => h), (h.q q hq).1.2⟩, (h.q q hq).2⟩, h.e, h.l, h.f.trans f, h.z⟩
/-- One more, appended. -/
theorem IL.next {w w3 w4 : World} {ss : List ByteArray} {n : Nat} {aa : Option Addr} {ca : Nat} {qs : List Prg} (h : IL w w3 ss n aa ca qs) (hn : n < ss.length) (p : Prg) (hp : PO w3 p) (hlo : ∀ x, bk (.slice p.a p.l.length p.cap) x → w.heap.size ≤ x)
    (hl : p.l = decL ss[n] (ss[n].size / 8)) (he : okP ss[n] = 0) {g c : Nat} (hlg : w.heap.size ≤ w3.heap.size)
    (o : Own w4 22 1 (some ⟨g, 0, none⟩) (n + 1) c (pcs qs ++ [p.v])) (f : Fr (bk (.slice aa n ca)) w3 w4) (hg : bk (.slice aa n ca) g ∨ w3.heap.size ≤ g) : IL w w4 ss (n + 1) (some ⟨g, 0, none⟩) c (qs ++ [p]) := by
  have hs : ∀ q, PO w3 q → PO w4 q := fun q hq => ⟨own_fr hq.1 f (fun x hx => own_apart hq.1 h.own (by decide) x hx), hq.2⟩
  refine ⟨by simp [h.cnt], ?_, ?_, ?_, ?_, ?_, ?_, fun e => by omega⟩
  · rw [pcs_app]; exact o
  · intro x hx
    simp only [bk, Value.ownBlock, Option.some.injEq] at hx
    rcases hg with hg | hg
    · have := h.lo g hg; omega
    · omega
  · intro q hq
    rcases List.mem_append.1 hq with e | e
    · exact ⟨hs q (h.q q e).1, (h.q q e).2⟩
    · rw [List.mem_singleton.1 e]; exact ⟨hs p hp, hlo⟩
  · intro j hj
    rcases Nat.lt_or_ge j n with h1 | h1
    · exact h.e j h1
    · rw [show j = n by omega]
      unfold insF
      rw [show ss.getD n ⟨#[]⟩ = ss[n] by simp [List.getD, hn], he]; rfl
  · rw [List.map_append, h.l, List.take_succ_eq_append_getElem hn, List.map_append]
    show _ ++ [p.l] = _ ++ [decL ss[n] (ss[n].size / 8)]
    rw [hl]
  · exact h.f.step f (fun x hx hb => by have := h.lo x hb; omega)

end Go.Proofs.Ytjgcfffepkmojaa
