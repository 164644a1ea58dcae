/- The contracts of KeepAll, of the model and of the program. -/
import Derived.Test.YtkjioadmebkaoaaDoorOpsM
import Derived.Test.YtkjioadmebkaoaaDoorRowsPart
namespace Go.Proofs.YtkjioadmebkaoaaDoor
open Go.RowKit
open Doc1

def keepL (n : Int) : List Pt := if 1 ≤ n ∧ n ≤ 300 then [⟨n, ⟨#[]⟩, ⟨#[]⟩⟩] else []
def keepOk (n : Int) : Bool := decide (0 ≤ n ∧ n ≤ 300)
theorem keepL_len (n : Int) : (keepL n).length ≤ 1 := by unfold keepL; split <;> simp
theorem Tryd.infoPart : (Tryd.prog.info? 136).map (fun i => (i.zero, i.size, i.bytes)) = some (some (.agg #[.int .i64 0, .string ⟨#[]⟩, .string ⟨#[]⟩]), 3, 40) := by kernel_rfl
theorem addr0 (g j : Nat) : (⟨g, 0, none⟩ : Addr).add j = ⟨g, j, none⟩ := by unfold Addr.add; split <;> simp_all
theorem cell_3_new (w : World) (o : Obj) (a b c : Value) (t : TypeId) : ∀ j u, [a, b, c][j]? = some u → ((w.alloc o).alloc (.cells #[a, b, c] t)).cell? ((⟨w.heap.size + 1, 0, none⟩ : Addr).add j) = some u := by
  intro j u hu
  have hh := heap_alloc_new (w.alloc o) (.cells #[a, b, c] t)
  rw [World.size_alloc] at hh
  rw [addr0]
  unfold World.cell?
  rw [hh]
  match j, hu with
  | 0, hu => simpa using hu
  | 1, hu => simpa using hu
  | 2, hu => simpa using hu
theorem new_part (w : World) (p : Pt) {B : Nat} (hB : B ≤ w.heap.size) : POwn (w.alloc (.cells #[.int .i64 p.keep, .string p.put, .string p.drop] 136)) B (.slice (some ⟨w.heap.size, 0, none⟩) 1 1) [p] :=
  ⟨rfl, Or.inr ⟨w.heap.size, 1, #[.int .i64 p.keep, .string p.put, .string p.drop], rfl, hB, heap_alloc_new w _, Nat.le_refl _, by unfold maxLen; omega, rfl, rfl⟩⟩

set_option maxRecDepth 100000 in
set_option maxHeartbeats 4000000 in
theorem l3Add_nil (n : Int) (w : World) (hn : 0 ≤ n ∧ n ≤ 300) :
    Calls Tryd.prog 159 #[.slice none 0 0, .agg #[.int .i64 n, .string ⟨#[]⟩, .string ⟨#[]⟩]] w fun e w' => ∃ v, e = .returned v ∧ POwn w' w.heap.size v (keepL n) ∧ Below w.heap.size w w' := by
  obtain ⟨i0, hi0, hz0, hz1, hz2⟩ := info_parts Tryd.infoPart
  unfold keepL
  by_cases h2 : n = 0
  · subst h2
    rw [if_neg (by omega)]
    go_enter Tryd.func159, Tryd.ntmps159
    go_wp2
    go_ret
    exact ⟨_, rfl, World.ownsRow_nil _ _ _ _, (Below.refl _ _).alloc (Nat.le_refl _) _⟩
  · rw [if_pos (by omega)]
    have hz : (n == 0) = false := by simpa using h2
    have own0 := World.ownsRow_nil (w.alloc (.cells #[.int .i64 n, .string ⟨#[]⟩, .string ⟨#[]⟩] 136)) w.heap.size 136 3
    go_enter Tryd.func159, Tryd.ntmps159
    go_wp2_with (at_builtin; refine wpList_append_own _ rfl _ _ 45 rfl w.heap.size 136 i0 (.agg #[.int .i64 0, .string ⟨#[]⟩, .string ⟨#[]⟩]) 3 40 Tryd.underlying45 hi0 hz0 hz1 hz2 rfl (by decide) _ _ _ rfl (own0.alloc _) ⟨w.heap.size + 1, 0, none⟩ 1 1 [.int .i64 n, .string ⟨#[]⟩, .string ⟨#[]⟩] rfl rfl ?c1 ?c2 ?c3 ?c4 ?c5 ?_)
    case c1 => exact cell_3_new _ _ _ _ _ _
    case c2 => intro u hu; simp at hu; rcases hu with rfl | rfl | rfl <;> rfl
    case c3 => unfold maxLen; omega
    case c4 => omega
    case c5 => simp; omega
    intro v' w2 hown' hgrow _
    have hb := ((Below.refl w.heap.size w).alloc (Nat.le_refl _) (.cells #[.int .i64 n, .string ⟨#[]⟩, .string ⟨#[]⟩] 136))
    have hb2 := below_append hb own0 (by simp) hgrow
    have HO : Hid (POwn w2 w.heap.size v' [⟨n, ⟨#[]⟩, ⟨#[]⟩⟩]) := hide hown'
    clear hown' hgrow
    go_wp2
    go_ret
    exact ⟨_, rfl, HO.out, hb2⟩

end Go.Proofs.YtkjioadmebkaoaaDoor
