/- The model's CutMarks. -/
import Derived.Test.YtknodkdlphngmawCutW1
namespace Go.Proofs.Ytknodkdlphngmaw
open Go.RowKit
open Doc1

theorem addrC (g j : Nat) : (⟨g, 0, none⟩ : Addr).add j = ⟨g, j, none⟩ := by unfold Addr.add; split <;> simp_all
theorem cellC_new (w : World) (a b c : Value) (t : TypeId) : ∀ j u, [a, b, c][j]? = some u → (w.alloc (.cells #[a, b, c] t)).cell? ((⟨w.heap.size, 0, none⟩ : Addr).add j) = some u := by
  intro j u hu
  rw [addrC]
  unfold World.cell?
  rw [heap_alloc_new]
  match j, hu with
  | 0, hu => simpa using hu
  | 1, hu => simpa using hu
  | 2, hu => simpa using hu
theorem cellC_new2 (w : World) (o : Obj) (a b c : Value) (t : TypeId) : ∀ j u, [a, b, c][j]? = some u → ((w.alloc o).alloc (.cells #[a, b, c] t)).cell? ((⟨w.heap.size + 1, 0, none⟩ : Addr).add j) = some u := by
  have := cellC_new (w.alloc o) a b c t
  rw [World.size_alloc] at this
  exact this
theorem cutL_snoc (l : List Mk) (fr to : Int) (st : ByteArray) {k : Nat} (hk : k < l.length) : cutL (l.take (k + 1)) fr to st = cutL (l.take k) fr to st ++ cut1 fr to st l[k] := by
  unfold cutL
  rw [List.take_succ_eq_append_getElem hk, List.flatMap_append, List.flatMap_singleton]
theorem cutL_len (fr to : Int) (st : ByteArray) : ∀ l : List Mk, (cutL l fr to st).length ≤ 2 * l.length
  | [] => by simp [cutL]
  | m :: l => by
    have := cutL_len fr to st l
    have e : (cut1 fr to st m).length ≤ 2 := by unfold cut1; split <;> (try simp) <;> split <;> split <;> simp
    unfold cutL at *
    rw [List.flatMap_cons, List.length_append, List.length_cons]; omega

end Go.Proofs.Ytknodkdlphngmaw
