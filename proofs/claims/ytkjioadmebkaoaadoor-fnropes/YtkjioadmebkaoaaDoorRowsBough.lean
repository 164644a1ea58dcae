/- The contracts of the laws' own helpers over rows of Bough: held against one another, marked, measured, copied. -/
import Derived.Test.YtkjioadmebkaoaaDoorRop1
import Derived.Test.YtkjioadmebkaoaaDoorCells
import Derived.Test.YtkjioadmebkaoaaDoorOwnG
import Derived.Test.YtkjioadmebkaoaaDoorNodes2
import Derived.Deep.QuietTactic
import Derived.BigQuiet
import Derived.Deep.RegionWith
namespace Go.Proofs.YtkjioadmebkaoaaDoor
open Go.RowKit
open Doc1

def bgV (x : Bg) : Value := .agg #[.int .i64 x.left, .int .i64 x.right, .string x.text, .int .i64 x.size, .int .i64 x.deep]
def bgC (x : Bg) : List Value := [.int .i64 x.left, .int .i64 x.right, .string x.text, .int .i64 x.size, .int .i64 x.deep]
def encBo (l : List Bg) : List Value := l.flatMap bgC
theorem encBo_len (l : List Bg) : (encBo l).length = l.length * 5 := by
  induction l with
  | nil => rfl
  | cons x l ih => rw [encBo, List.flatMap_cons, List.length_append]; change _ + (encBo l).length = _; rw [ih]; simp [bgC]; omega
theorem encBo_app (a b : List Bg) : encBo (a ++ b) = encBo a ++ encBo b := by simp [encBo]
theorem encBo_at (l : List Bg) : ∀ i (h : i < l.length), (encBo l)[i * 5]? = some (.int .i64 l[i].left) ∧ (encBo l)[i * 5 + 1]? = some (.int .i64 l[i].right) ∧ (encBo l)[i * 5 + 2]? = some (.string l[i].text) ∧ (encBo l)[i * 5 + 3]? = some (.int .i64 l[i].size) ∧ (encBo l)[i * 5 + 4]? = some (.int .i64 l[i].deep) := by
  induction l with
  | nil => intro i h; simp at h
  | cons x l ih =>
    intro i h
    have e : encBo (x :: l) = bgC x ++ encBo l := by simp [encBo]
    cases i with
    | zero => rw [e]; simp [bgC]
    | succ i =>
      have := ih i (by simpa using h)
      rw [e, show (i + 1) * 5 = 5 + i * 5 by omega, show 5 + i * 5 + 1 = 5 + (i * 5 + 1) by omega, show 5 + i * 5 + 2 = 5 + (i * 5 + 2) by omega, show 5 + i * 5 + 3 = 5 + (i * 5 + 3) by omega, show 5 + i * 5 + 4 = 5 + (i * 5 + 4) by omega]
      rw [List.getElem?_append_right (by simp [bgC]), List.getElem?_append_right (by simp [bgC]), List.getElem?_append_right (by simp [bgC]), List.getElem?_append_right (by simp [bgC]), List.getElem?_append_right (by simp [bgC])]
      simpa [bgC] using this
def ksBo (j : Nat) : Bool := j % 5 == 2
theorem CLs.bgat {w : World} {g : Nat} {l : List Bg} (h : CLs w g (encBo l)) (i : Nat) (hi : i < l.length) : w.cell? ⟨g, i * 5, none⟩ = some (.int .i64 l[i].left) ∧ w.cell? ⟨g, i * 5 + 1, none⟩ = some (.int .i64 l[i].right) ∧ w.cell? ⟨g, i * 5 + 2, none⟩ = some (.string l[i].text) ∧ w.cell? ⟨g, i * 5 + 3, none⟩ = some (.int .i64 l[i].size) ∧ w.cell? ⟨g, i * 5 + 4, none⟩ = some (.int .i64 l[i].deep) := by
  have := encBo_at l i hi
  exact ⟨h _ _ this.1, h _ _ this.2.1, h _ _ this.2.2.1, h _ _ this.2.2.2.1, h _ _ this.2.2.2.2⟩

/-- A slice of Bough as it came in. -/
inductive ArgBo (W : World) : Value → List Bg → Prop
  | nil (a : Option Addr) (cap : Nat) : ArgBo W (.slice a 0 cap) []
  | row (b off cap : Nat) (l : List Bg) (hb : b < W.heap.size) (hn : 0 < l.length) (hle : l.length ≤ cap) (hm : cap ≤ maxLen) (hc : ∀ i (h : i < l.length), W.cell? ⟨b, off + i * 5, none⟩ = some (.int .i64 l[i].left) ∧ W.cell? ⟨b, off + i * 5 + 1, none⟩ = some (.int .i64 l[i].right) ∧ W.cell? ⟨b, off + i * 5 + 2, none⟩ = some (.string l[i].text) ∧ W.cell? ⟨b, off + i * 5 + 3, none⟩ = some (.int .i64 l[i].size) ∧ W.cell? ⟨b, off + i * 5 + 4, none⟩ = some (.int .i64 l[i].deep)) :
      ArgBo W (.slice (some ⟨b, off, none⟩) l.length cap) l
theorem ArgBo.later {W W1 : World} {v : Value} {l : List Bg} (h : ArgBo W v l) (hb : Below W.heap.size W W1) : ArgBo W1 v l := by
  cases h with
  | nil a cap => exact .nil a cap
  | row b off cap p h1 h2 h3 h4 h5 => exact .row b off cap _ (Nat.lt_of_lt_of_le h1 hb.size) h2 h3 h4 (fun i hi => by
      have := h5 i hi
      exact ⟨(World.cell?_of_block (hb.block b h1)).trans this.1, (World.cell?_of_block (hb.block b h1)).trans this.2.1, (World.cell?_of_block (hb.block b h1)).trans this.2.2.1, (World.cell?_of_block (hb.block b h1)).trans this.2.2.2.1, (World.cell?_of_block (hb.block b h1)).trans this.2.2.2.2⟩)
theorem argBo_len {w : World} {v : Value} {l : List Bg} (h : ArgBo w v l) : l.length ≤ 9223372036854775807 := by
  cases h with
  | nil a cap => simp
  | row b off cap p h1 h2 h3 h4 h5 => unfold maxLen at h4; omega
/-- What the first have of letters. -/
def szBoU (l : List Bg) : Nat → Nat
  | 0 => 0
  | i + 1 => szBoU l i + (match l[i]? with | some x => x.text.size | none => 0)
theorem szBoU_succ (l : List Bg) (i : Nat) (h : i < l.length) : szBoU l (i + 1) = szBoU l i + (l[i].text.size) := by
  show szBoU l i + _ = _
  rw [List.getElem?_eq_getElem h]
theorem szBoU_mono (l : List Bg) : ∀ i j, i ≤ j → szBoU l i ≤ szBoU l j
  | i, 0, h => by obtain rfl : i = 0 := by omega
                  exact Nat.le_refl _
  | i, j + 1, h => by
    by_cases e : i = j + 1
    · subst e; exact Nat.le_refl _
    · have := szBoU_mono l i j (by omega)
      show _ ≤ szBoU l j + _
      omega
def szBon (l : List Bg) : Nat := l.length + szBoU l l.length

theorem makeBo (n : Nat) (hn : n ≤ 2000000) : ∃ C : Array Value, C.size = n * 5 ∧ ∀ w : World, (Instr.makeSlice 24 (.int .i64 (n : Int)) (.int .i64 (n : Int))).run Tryd.prog w = .ok (.slice (some ⟨w.heap.size, 0, none⟩) n n) (w.alloc (.cells C 36)) := by
  have hinfo : (Tryd.prog.info? 36).map (fun i => (i.zero, i.size, i.bytes)) = some (some (.agg #[.int .i64 0, .int .i64 0, .string ⟨#[]⟩, .int .i64 0, .int .i64 0]), 5, 48) := by kernel_rfl
  obtain ⟨i0, hi0, hz0, hz1, hz2⟩ := info_parts hinfo
  refine ⟨madeCells (Value.agg #[.int .i64 0, .int .i64 0, .string ⟨#[]⟩, .int .i64 0, .int .i64 0]).cells (n * i0.size), by rw [size_madeCells, hz1], fun w => ?_⟩
  have := run_make (P := Tryd.prog) w 24 36 i0 (.agg #[.int .i64 0, .int .i64 0, .string ⟨#[]⟩, .int .i64 0, .int .i64 0]) Tryd.underlying24 hi0 hz0 .i64 .i64 n n (by omega) (Int.le_refl _) (by rw [hz2]; omega) (by omega)
  simpa only [Int.toNat_natCast] using this

/-- A copy of what came in. -/
structure BoCp (w : World) (g : Nat) (l : List Bg) : Prop where
  at' : CLs w g (encBo l)
  blk : Blk w g (l.length * 5)
  lt : g < w.heap.size
theorem BoCp.later {w w1 : World} {g : Nat} {l : List Bg} (h : BoCp w g l) (hb : Below w.heap.size w w1) : BoCp w1 g l := ⟨h.at'.later hb h.lt, h.blk.later hb h.lt, Nat.lt_of_lt_of_le h.lt hb.size⟩

def BoOwn (w : World) (B : Nat) (v : Value) (l : List Bg) : Prop := w.ownsRow B 36 5 v l.length (encBo l)
theorem BoOwn.mono {w : World} {B B' : Nat} {v : Value} {l : List Bg} (h : BoOwn w B v l) (hB : B' ≤ B) : BoOwn w B' v l := own_mono h hB
def BoMk (w : World) (v : Value) (n : Nat) : Prop := (n = 0 ∧ ∃ a cap, v = .slice a 0 cap) ∨ ∃ g cap, v = .slice (some ⟨g, 0, none⟩) n cap ∧ n ≤ cap ∧ cap ≤ maxLen ∧ g < w.heap.size ∧ CLs w g (mkAll ksBo (n * 5))
theorem BoMk.later {w w1 : World} {v : Value} {n : Nat} (h : BoMk w v n) (hb : Below w.heap.size w w1) : BoMk w1 v n :=
  h.imp id (fun ⟨g, cap, e, h1, h2, h3, h4⟩ => ⟨g, cap, e, h1, h2, Nat.lt_of_lt_of_le h3 hb.size, h4.later hb h3⟩)

end Go.Proofs.YtkjioadmebkaoaaDoor
