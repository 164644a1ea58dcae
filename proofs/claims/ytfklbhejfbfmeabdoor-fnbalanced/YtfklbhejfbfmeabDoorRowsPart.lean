/- The contracts of the laws' own helpers over rows of Part: held against one another, marked, measured, copied. -/
import Derived.Test.YtfklbhejfbfmeabDoorOpsM
import Derived.Test.YtfklbhejfbfmeabDoorCells
import Derived.Test.YtfklbhejfbfmeabDoorOwnG
import Derived.Test.YtfklbhejfbfmeabDoorNodes2
import Derived.Deep.QuietTactic
import Derived.BigQuiet
import Derived.Deep.RegionWith
namespace Go.Proofs.YtfklbhejfbfmeabDoor
open Go.RowKit
open Doc1

def ptV (x : Pt) : Value := .agg #[.int .i64 x.keep, .string x.put, .string x.drop]
def ptC (x : Pt) : List Value := [.int .i64 x.keep, .string x.put, .string x.drop]
def encP (l : List Pt) : List Value := l.flatMap ptC
theorem encP_len (l : List Pt) : (encP l).length = l.length * 3 := by
  induction l with
  | nil => rfl
  | cons x l ih => rw [encP, List.flatMap_cons, List.length_append]; change _ + (encP l).length = _; rw [ih]; simp [ptC]; omega
theorem encP_app (a b : List Pt) : encP (a ++ b) = encP a ++ encP b := by simp [encP]
theorem encP_at (l : List Pt) : ∀ i (h : i < l.length), (encP l)[i * 3]? = some (.int .i64 l[i].keep) ∧ (encP l)[i * 3 + 1]? = some (.string l[i].put) ∧ (encP l)[i * 3 + 2]? = some (.string l[i].drop) := by
  induction l with
  | nil => intro i h; simp at h
  | cons x l ih =>
    intro i h
    have e : encP (x :: l) = ptC x ++ encP l := by simp [encP]
    cases i with
    | zero => rw [e]; simp [ptC]
    | succ i =>
      have := ih i (by simpa using h)
      rw [e, show (i + 1) * 3 = 3 + i * 3 by omega, show 3 + i * 3 + 1 = 3 + (i * 3 + 1) by omega, show 3 + i * 3 + 2 = 3 + (i * 3 + 2) by omega]
      rw [List.getElem?_append_right (by simp [ptC]), List.getElem?_append_right (by simp [ptC]), List.getElem?_append_right (by simp [ptC])]
      simpa [ptC] using this
def ksP (j : Nat) : Bool := j % 3 == 1 || j % 3 == 2
theorem CLs.ptat {w : World} {g : Nat} {l : List Pt} (h : CLs w g (encP l)) (i : Nat) (hi : i < l.length) : w.cell? ⟨g, i * 3, none⟩ = some (.int .i64 l[i].keep) ∧ w.cell? ⟨g, i * 3 + 1, none⟩ = some (.string l[i].put) ∧ w.cell? ⟨g, i * 3 + 2, none⟩ = some (.string l[i].drop) := by
  have := encP_at l i hi
  exact ⟨h _ _ this.1, h _ _ this.2.1, h _ _ this.2.2⟩

/-- A slice of Part as it came in. -/
inductive ArgP (W : World) : Value → List Pt → Prop
  | nil (a : Option Addr) (cap : Nat) : ArgP W (.slice a 0 cap) []
  | row (b off cap : Nat) (l : List Pt) (hb : b < W.heap.size) (hn : 0 < l.length) (hle : l.length ≤ cap) (hm : cap ≤ maxLen) (hc : ∀ i (h : i < l.length), W.cell? ⟨b, off + i * 3, none⟩ = some (.int .i64 l[i].keep) ∧ W.cell? ⟨b, off + i * 3 + 1, none⟩ = some (.string l[i].put) ∧ W.cell? ⟨b, off + i * 3 + 2, none⟩ = some (.string l[i].drop)) :
      ArgP W (.slice (some ⟨b, off, none⟩) l.length cap) l
theorem ArgP.later {W W1 : World} {v : Value} {l : List Pt} (h : ArgP W v l) (hb : Below W.heap.size W W1) : ArgP W1 v l := by
  cases h with
  | nil a cap => exact .nil a cap
  | row b off cap p h1 h2 h3 h4 h5 => exact .row b off cap _ (Nat.lt_of_lt_of_le h1 hb.size) h2 h3 h4 (fun i hi => by
      have := h5 i hi
      exact ⟨(World.cell?_of_block (hb.block b h1)).trans this.1, (World.cell?_of_block (hb.block b h1)).trans this.2.1, (World.cell?_of_block (hb.block b h1)).trans this.2.2⟩)
theorem argP_len {w : World} {v : Value} {l : List Pt} (h : ArgP w v l) : l.length ≤ 9223372036854775807 := by
  cases h with
  | nil a cap => simp
  | row b off cap p h1 h2 h3 h4 h5 => unfold maxLen at h4; omega
/-- What the first have of letters. -/
def szPU (l : List Pt) : Nat → Nat
  | 0 => 0
  | i + 1 => szPU l i + (match l[i]? with | some x => x.put.size + x.drop.size | none => 0)
theorem szPU_succ (l : List Pt) (i : Nat) (h : i < l.length) : szPU l (i + 1) = szPU l i + (l[i].put.size + l[i].drop.size) := by
  show szPU l i + _ = _
  rw [List.getElem?_eq_getElem h]
theorem szPU_mono (l : List Pt) : ∀ i j, i ≤ j → szPU l i ≤ szPU l j
  | i, 0, h => by obtain rfl : i = 0 := by omega
                  exact Nat.le_refl _
  | i, j + 1, h => by
    by_cases e : i = j + 1
    · subst e; exact Nat.le_refl _
    · have := szPU_mono l i j (by omega)
      show _ ≤ szPU l j + _
      omega
def szPn (l : List Pt) : Nat := l.length + szPU l l.length

theorem makeP (n : Nat) (hn : n ≤ 2000000) : ∃ C : Array Value, C.size = n * 3 ∧ ∀ w : World, (Instr.makeSlice 45 (.int .i64 (n : Int)) (.int .i64 (n : Int))).run Tryd.prog w = .ok (.slice (some ⟨w.heap.size, 0, none⟩) n n) (w.alloc (.cells C 110)) := by
  have hinfo : (Tryd.prog.info? 110).map (fun i => (i.zero, i.size, i.bytes)) = some (some (.agg #[.int .i64 0, .string ⟨#[]⟩, .string ⟨#[]⟩]), 3, 40) := by kernel_rfl
  obtain ⟨i0, hi0, hz0, hz1, hz2⟩ := info_parts hinfo
  refine ⟨madeCells (Value.agg #[.int .i64 0, .string ⟨#[]⟩, .string ⟨#[]⟩]).cells (n * i0.size), by rw [size_madeCells, hz1], fun w => ?_⟩
  have := run_make (P := Tryd.prog) w 45 110 i0 (.agg #[.int .i64 0, .string ⟨#[]⟩, .string ⟨#[]⟩]) Tryd.underlying45 hi0 hz0 .i64 .i64 n n (by omega) (Int.le_refl _) (by rw [hz2]; omega) (by omega)
  simpa only [Int.toNat_natCast] using this

/-- A copy of what came in. -/
structure PCp (w : World) (g : Nat) (l : List Pt) : Prop where
  at' : CLs w g (encP l)
  blk : Blk w g (l.length * 3)
  lt : g < w.heap.size
theorem PCp.later {w w1 : World} {g : Nat} {l : List Pt} (h : PCp w g l) (hb : Below w.heap.size w w1) : PCp w1 g l := ⟨h.at'.later hb h.lt, h.blk.later hb h.lt, Nat.lt_of_lt_of_le h.lt hb.size⟩

def POwn (w : World) (B : Nat) (v : Value) (l : List Pt) : Prop := w.ownsRow B 110 3 v l.length (encP l)
theorem POwn.mono {w : World} {B B' : Nat} {v : Value} {l : List Pt} (h : POwn w B v l) (hB : B' ≤ B) : POwn w B' v l := own_mono h hB
def PMk (w : World) (v : Value) (n : Nat) : Prop := (n = 0 ∧ ∃ a cap, v = .slice a 0 cap) ∨ ∃ g cap, v = .slice (some ⟨g, 0, none⟩) n cap ∧ n ≤ cap ∧ cap ≤ maxLen ∧ g < w.heap.size ∧ CLs w g (mkAll ksP (n * 3))
theorem PMk.later {w w1 : World} {v : Value} {n : Nat} (h : PMk w v n) (hb : Below w.heap.size w w1) : PMk w1 v n :=
  h.imp id (fun ⟨g, cap, e, h1, h2, h3, h4⟩ => ⟨g, cap, e, h1, h2, Nat.lt_of_lt_of_le h3 hb.size, h4.later hb h3⟩)

end Go.Proofs.YtfklbhejfbfmeabDoor
