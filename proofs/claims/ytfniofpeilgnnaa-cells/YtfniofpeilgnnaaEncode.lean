import Derived.Test.YtfniofpeilgnnaaStill
import Derived.Laws.BytesString
namespace Go.Proofs.Ytfniofpeilgnnaa
open Go.RowKit
set_option linter.unusedVariables false

/-- An instruction's bytes. -/
def Ins.bs (x : Ins) : List Int := [x.code % 256, x.code / 256, x.jt, x.jf, x.k % 256, x.k / 256 % 256, x.k / 65536 % 256, x.k / 16777216]
def enc : List Ins → List Int
  | [] => []
  | x :: l => x.bs ++ enc l
theorem enc_len (l : List Ins) : (enc l).length = l.length * 8 := by
  induction l with
  | nil => rfl
  | cons x l ih => simp [enc, Ins.bs, ih]; omega
theorem enc_append (l m : List Ins) : enc (l ++ m) = enc l ++ enc m := by
  induction l with
  | nil => rfl
  | cons x l ih => simp [enc, ih]
theorem enc_snoc (l : List Ins) (k : Nat) (h : k < l.length) : enc (l.take (k + 1)) = enc (l.take k) ++ (l[k]).bs := by
  rw [List.take_succ_eq_append_getElem h, enc_append]; simp [enc]
def u8s (l : List Int) : List Value := l.map (Value.int .u8)
theorem u8s_one (l : List Int) : ∀ u ∈ u8s l, u.oneCell' = true := by
  intro u hu
  simp only [u8s, List.mem_map] at hu
  obtain ⟨b, _, rfl⟩ := hu
  rfl
def toBA (ns : List Int) : ByteArray := ns.foldl (fun r n => r.push (UInt8.ofNat n.toNat)) ByteArray.empty
theorem size_foldl_push (ns : List Int) (a : ByteArray) : (ns.foldl (fun r n => r.push (UInt8.ofNat n.toNat)) a).size = a.size + ns.length := by
  induction ns generalizing a with
  | nil => simp
  | cons n ns ih =>
    simp only [List.foldl_cons, ih, List.length_cons]
    rw [show (a.push (UInt8.ofNat n.toNat)).size = a.size + 1 from Array.size_push _]
    omega
theorem toBA_size (ns : List Int) : (toBA ns).size = ns.length := by
  rw [toBA, size_foldl_push]; simp

theorem two_new (w : World) (a b : Obj) : ((w.alloc a).alloc b).heap[w.heap.size + 1]? = some b := by
  have := heap_alloc_new (w.alloc a) b
  rwa [World.size_alloc] at this
theorem u8s_append (l m : List Int) : u8s (l ++ m) = u8s l ++ u8s m := by simp [u8s]

/-- string(b), b of the call's own. -/
theorem conv_own (w : World) (ao : Option Addr) (n cap : Nat) (ns : List Int) (h : Own w 5 1 ao n cap (u8s ns)) :
    (convert 61 9 (.slice ao n cap)).run Try.prog w = .ok (.string (toBA ns)) w := by
  rw [run_convert_bytes_string w 61 9 5 ao n cap Try.underlying61 Try.underlying5 Try.underlying9]
  have hl : ns.length = n := by have := h.1; simpa [u8s] using this
  rcases h.2 with ⟨hv, hn⟩ | ⟨g, cap', cur, hv, _, hg, _⟩
  · simp only [Value.slice.injEq] at hv
    obtain ⟨rfl, rfl, rfl⟩ := hv
    have : ns = [] := List.eq_nil_of_length_eq_zero hl
    subst this
    rfl
  · simp only [Value.slice.injEq, true_and] at hv
    obtain ⟨rfl, rfl⟩ := hv
    refine run_bytesToString w ⟨g, 0, none⟩ n cap ns ?_
    have := run_loadCells_list (P := Try.prog) w ⟨g, 0, none⟩ (u8s ns) (fun j v hj => by rw [Addr.add_lit, Nat.zero_add]; exact own_get h hj)
    rw [show (u8s ns).length = n by simp [u8s, hl]] at this
    exact this

end Go.Proofs.Ytfniofpeilgnnaa
