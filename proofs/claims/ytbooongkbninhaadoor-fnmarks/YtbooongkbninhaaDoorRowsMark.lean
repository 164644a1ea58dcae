/- The contracts of the laws' own helpers over rows of Mark: held against one another, marked, measured, copied. -/
import Derived.Test.YtbooongkbninhaaDoorMark1
import Derived.Test.YtbooongkbninhaaDoorCells
import Derived.Test.YtbooongkbninhaaDoorOwnG
import Derived.Test.YtbooongkbninhaaDoorNodes2
import Derived.Deep.QuietTactic
import Derived.BigQuiet
import Derived.Deep.RegionWith
namespace Go.Proofs.YtbooongkbninhaaDoor
open Go.RowKit
open Doc1

def mrV (x : Mk) : Value := .agg #[.int .i64 x.frm, .int .i64 x.to, .string x.style]
def mrC (x : Mk) : List Value := [.int .i64 x.frm, .int .i64 x.to, .string x.style]
def encMr (l : List Mk) : List Value := l.flatMap mrC
theorem encMr_len (l : List Mk) : (encMr l).length = l.length * 3 := by
  induction l with
  | nil => rfl
  | cons x l ih => rw [encMr, List.flatMap_cons, List.length_append]; change _ + (encMr l).length = _; rw [ih]; simp [mrC]; omega
theorem encMr_app (a b : List Mk) : encMr (a ++ b) = encMr a ++ encMr b := by simp [encMr]
theorem encMr_at (l : List Mk) : ∀ i (h : i < l.length), (encMr l)[i * 3]? = some (.int .i64 l[i].frm) ∧ (encMr l)[i * 3 + 1]? = some (.int .i64 l[i].to) ∧ (encMr l)[i * 3 + 2]? = some (.string l[i].style) := by
  induction l with
  | nil => intro i h; simp at h
  | cons x l ih =>
    intro i h
    have e : encMr (x :: l) = mrC x ++ encMr l := by simp [encMr]
    cases i with
    | zero => rw [e]; simp [mrC]
    | succ i =>
      have := ih i (by simpa using h)
      rw [e, show (i + 1) * 3 = 3 + i * 3 by omega, show 3 + i * 3 + 1 = 3 + (i * 3 + 1) by omega, show 3 + i * 3 + 2 = 3 + (i * 3 + 2) by omega]
      rw [List.getElem?_append_right (by simp [mrC]), List.getElem?_append_right (by simp [mrC]), List.getElem?_append_right (by simp [mrC])]
      simpa [mrC] using this
def ksMr (j : Nat) : Bool := j % 3 == 2
theorem CLs.mrat {w : World} {g : Nat} {l : List Mk} (h : CLs w g (encMr l)) (i : Nat) (hi : i < l.length) : w.cell? ⟨g, i * 3, none⟩ = some (.int .i64 l[i].frm) ∧ w.cell? ⟨g, i * 3 + 1, none⟩ = some (.int .i64 l[i].to) ∧ w.cell? ⟨g, i * 3 + 2, none⟩ = some (.string l[i].style) := by
  have := encMr_at l i hi
  exact ⟨h _ _ this.1, h _ _ this.2.1, h _ _ this.2.2⟩

/-- A slice of Mark as it came in. -/
inductive ArgMr (W : World) : Value → List Mk → Prop
  | nil (a : Option Addr) (cap : Nat) : ArgMr W (.slice a 0 cap) []
  | row (b off cap : Nat) (l : List Mk) (hb : b < W.heap.size) (hn : 0 < l.length) (hle : l.length ≤ cap) (hm : cap ≤ maxLen) (hc : ∀ i (h : i < l.length), W.cell? ⟨b, off + i * 3, none⟩ = some (.int .i64 l[i].frm) ∧ W.cell? ⟨b, off + i * 3 + 1, none⟩ = some (.int .i64 l[i].to) ∧ W.cell? ⟨b, off + i * 3 + 2, none⟩ = some (.string l[i].style)) :
      ArgMr W (.slice (some ⟨b, off, none⟩) l.length cap) l
theorem ArgMr.later {W W1 : World} {v : Value} {l : List Mk} (h : ArgMr W v l) (hb : Below W.heap.size W W1) : ArgMr W1 v l := by
  cases h with
  | nil a cap => exact .nil a cap
  | row b off cap p h1 h2 h3 h4 h5 => exact .row b off cap _ (Nat.lt_of_lt_of_le h1 hb.size) h2 h3 h4 (fun i hi => by
      have := h5 i hi
      exact ⟨(World.cell?_of_block (hb.block b h1)).trans this.1, (World.cell?_of_block (hb.block b h1)).trans this.2.1, (World.cell?_of_block (hb.block b h1)).trans this.2.2⟩)
theorem argMr_len {w : World} {v : Value} {l : List Mk} (h : ArgMr w v l) : l.length ≤ 9223372036854775807 := by
  cases h with
  | nil a cap => simp
  | row b off cap p h1 h2 h3 h4 h5 => unfold maxLen at h4; omega
/-- What the first have of letters. -/
def szMrU (l : List Mk) : Nat → Nat
  | 0 => 0
  | i + 1 => szMrU l i + (match l[i]? with | some x => x.style.size | none => 0)
theorem szMrU_succ (l : List Mk) (i : Nat) (h : i < l.length) : szMrU l (i + 1) = szMrU l i + (l[i].style.size) := by
  show szMrU l i + _ = _
  rw [List.getElem?_eq_getElem h]
theorem szMrU_mono (l : List Mk) : ∀ i j, i ≤ j → szMrU l i ≤ szMrU l j
  | i, 0, h => by obtain rfl : i = 0 := by omega
                  exact Nat.le_refl _
  | i, j + 1, h => by
    by_cases e : i = j + 1
    · subst e; exact Nat.le_refl _
    · have := szMrU_mono l i j (by omega)
      show _ ≤ szMrU l j + _
      omega
def szMrn (l : List Mk) : Nat := l.length + szMrU l l.length

theorem makeMr (n : Nat) (hn : n ≤ 2000000) : ∃ C : Array Value, C.size = n * 3 ∧ ∀ w : World, (Instr.makeSlice 24 (.int .i64 (n : Int)) (.int .i64 (n : Int))).run Tryd.prog w = .ok (.slice (some ⟨w.heap.size, 0, none⟩) n n) (w.alloc (.cells C 34)) := by
  have hinfo : (Tryd.prog.info? 34).map (fun i => (i.zero, i.size, i.bytes)) = some (some (.agg #[.int .i64 0, .int .i64 0, .string ⟨#[]⟩]), 3, 32) := by kernel_rfl
  obtain ⟨i0, hi0, hz0, hz1, hz2⟩ := info_parts hinfo
  refine ⟨madeCells (Value.agg #[.int .i64 0, .int .i64 0, .string ⟨#[]⟩]).cells (n * i0.size), by rw [size_madeCells, hz1], fun w => ?_⟩
  have := run_make (P := Tryd.prog) w 24 34 i0 (.agg #[.int .i64 0, .int .i64 0, .string ⟨#[]⟩]) Tryd.underlying24 hi0 hz0 .i64 .i64 n n (by omega) (Int.le_refl _) (by rw [hz2]; omega) (by omega)
  simpa only [Int.toNat_natCast] using this

/-- A copy of what came in. -/
structure MrCp (w : World) (g : Nat) (l : List Mk) : Prop where
  at' : CLs w g (encMr l)
  blk : Blk w g (l.length * 3)
  lt : g < w.heap.size
theorem MrCp.later {w w1 : World} {g : Nat} {l : List Mk} (h : MrCp w g l) (hb : Below w.heap.size w w1) : MrCp w1 g l := ⟨h.at'.later hb h.lt, h.blk.later hb h.lt, Nat.lt_of_lt_of_le h.lt hb.size⟩

def MrOwn (w : World) (B : Nat) (v : Value) (l : List Mk) : Prop := w.ownsRow B 34 3 v l.length (encMr l)
theorem MrOwn.mono {w : World} {B B' : Nat} {v : Value} {l : List Mk} (h : MrOwn w B v l) (hB : B' ≤ B) : MrOwn w B' v l := own_mono h hB
def MrMk (w : World) (v : Value) (n : Nat) : Prop := (n = 0 ∧ ∃ a cap, v = .slice a 0 cap) ∨ ∃ g cap, v = .slice (some ⟨g, 0, none⟩) n cap ∧ n ≤ cap ∧ cap ≤ maxLen ∧ g < w.heap.size ∧ CLs w g (mkAll ksMr (n * 3))
theorem MrMk.later {w w1 : World} {v : Value} {n : Nat} (h : MrMk w v n) (hb : Below w.heap.size w w1) : MrMk w1 v n :=
  h.imp id (fun ⟨g, cap, e, h1, h2, h3, h4⟩ => ⟨g, cap, e, h1, h2, Nat.lt_of_lt_of_le h3 hb.size, h4.later hb h3⟩)

end Go.Proofs.YtbooongkbninhaaDoor
