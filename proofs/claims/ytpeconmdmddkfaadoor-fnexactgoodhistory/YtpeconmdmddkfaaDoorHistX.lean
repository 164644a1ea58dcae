/- Histories that lie between two blocks. -/
import Derived.Test.YtpeconmdmddkfaaDoorHistR
set_option linter.unusedVariables false
namespace Go.Proofs.YtpeconmdmddkfaaDoor
open Go.RowKit
open Doc1

/-- A history's rows: all blocks are of lo to hi. -/
def HX (lo hi : Nat) (w : World) (vu vr : Value) (u r : List (List Pt)) : Prop :=
  ∃ S T : Nat → Prop, DR S w vu u ∧ DR T w vr r ∧ (∀ y, S y → ¬ T y) ∧ ∀ y, S y ∨ T y → lo ≤ y ∧ y < hi
/-- The same, marked. -/
def HK (K lo hi : Nat) (w : World) (vu vr : Value) (u r : List (List Pt)) : Prop :=
  ∃ S T : Nat → Prop, DK K S w vu u ∧ DK (K + mkN u) T w vr r ∧ (∀ y, S y → ¬ T y) ∧ ∀ y, S y ∨ T y → lo ≤ y ∧ y < hi
def Iv (lo hi : Nat) : Nat → Prop := fun y => lo ≤ y ∧ y < hi
theorem HX.later {lo hi : Nat} {w w1 : World} {vu vr : Value} {u r : List (List Pt)} (h : HX lo hi w vu vr u r) (hb : Below w.heap.size w w1) : HX lo hi w1 vu vr u r := by
  obtain ⟨S, T, h1, h2, h3, h4⟩ := h
  exact ⟨S, T, h1.later hb, h2.later hb, h3, h4⟩
theorem HX.out {lo hi a b : Nat} {w w1 : World} {vu vr : Value} {u r : List (List Pt)} (h : HX lo hi w vu vr u r) (ho : Out (Iv a b) w w1) (hd : hi ≤ a ∨ b ≤ lo) : HX lo hi w1 vu vr u r := by
  obtain ⟨S, T, h1, h2, h3, h4⟩ := h
  exact ⟨S, T, h1.out ho (fun y hy c => by have := h4 y (.inl hy); have := c.1; have := c.2; omega), h2.out ho (fun y hy c => by have := h4 y (.inr hy); have := c.1; have := c.2; omega), h3, h4⟩
theorem HX.wide {lo hi lo' hi' : Nat} {w : World} {vu vr : Value} {u r : List (List Pt)} (h : HX lo hi w vu vr u r) (h1 : lo' ≤ lo) (h2 : hi ≤ hi') : HX lo' hi' w vu vr u r := by
  obtain ⟨S, T, k1, k2, k3, k4⟩ := h
  exact ⟨S, T, k1, k2, k3, fun y hy => by have := k4 y hy; omega⟩
theorem HK.later {K lo hi : Nat} {w w1 : World} {vu vr : Value} {u r : List (List Pt)} (h : HK K lo hi w vu vr u r) (hb : Below w.heap.size w w1) : HK K lo hi w1 vu vr u r := by
  obtain ⟨S, T, h1, h2, h3, h4⟩ := h
  exact ⟨S, T, h1.later hb, h2.later hb, h3, h4⟩
theorem HK.out {K lo hi a b : Nat} {w w1 : World} {vu vr : Value} {u r : List (List Pt)} (h : HK K lo hi w vu vr u r) (ho : Out (Iv a b) w w1) (hd : hi ≤ a ∨ b ≤ lo) : HK K lo hi w1 vu vr u r := by
  obtain ⟨S, T, h1, h2, h3, h4⟩ := h
  exact ⟨S, T, h1.out ho (fun y hy c => by have := h4 y (.inl hy); have := c.1; have := c.2; omega), h2.out ho (fun y hy c => by have := h4 y (.inr hy); have := c.1; have := c.2; omega), h3, h4⟩
theorem CB.outI {a b : Nat} {w w1 : World} {c : Nat} {cs : Array Value} (h : CB w c cs) (ho : Out (Iv a b) w w1) (hd : c < a ∨ b ≤ c) : CB w1 c cs := h.out ho (fun e => by have := e.1; have := e.2; omega)
theorem HX.shp {lo hi : Nat} {w : World} {vu vr : Value} {u r : List (List Pt)} (h : HX lo hi w vu vr u r) : ∃ a c a' c', vu = .slice a u.length c ∧ vr = .slice a' r.length c' := by
  obtain ⟨S, T, h1, h2, -, -⟩ := h
  obtain ⟨a, c, e⟩ := h1.shp
  obtain ⟨a', c', e'⟩ := h2.shp
  exact ⟨a, c, a', c', e, e'⟩
theorem hx_nil (lo hi : Nat) (w : World) (a b : Option Addr) (c d : Nat) : HX lo hi w (.slice a 0 c) (.slice b 0 d) [] [] :=
  ⟨fun _ => False, fun _ => False, .inl ⟨rfl, a, c, rfl⟩, .inl ⟨rfl, b, d, rfl⟩, fun _ h => h.elim, fun _ h => h.elim (fun c => c.elim) (fun c => c.elim)⟩

theorem eqX {lo hi lo' hi' : Nat} {w : World} {vu vr vu' vr' : Value} {t : ByteArray} {u r : List (List Pt)} (h : HX lo hi w vu vr u r) (h' : HX lo' hi' w vu' vr' u r) (bu : BdC u) (br : BdC r) :
    Calls Tryd.prog 11 #[.agg #[.string t, vu, vr], .agg #[.string t, vu', vr']] w fun e w' => e = .returned (.bool true) ∧ Below w.heap.size w w' := by
  obtain ⟨S, T, h1, h2, -, -⟩ := h
  obtain ⟨S', T', h1', h2', -, -⟩ := h'
  exact eqH_r h1 h2 h1' h2' bu br

theorem markX {lo hi : Nat} {w : World} {vu vr : Value} {t : ByteArray} {u r : List (List Pt)} (h : HX lo hi w vu vr u r) (hw : hi ≤ w.heap.size) (bu : BdC u) (br : BdC r) (K : Nat) (hK : 0 < K ∧ K + mkN u + mkN r ≤ 500000000) :
    Calls Tryd.prog 12 #[.agg #[.string t, vu, vr], .int .i64 (K : Int)] w fun e w' => e = .returned (.int .i64 (K + mkN u + mkN r : Nat)) ∧ Out (Iv lo hi) w w' ∧ HK K lo hi w' vu vr u r := by
  obtain ⟨S, T, h1, h2, h3, h4⟩ := h
  refine (markH_r h1 h2 h3 (fun y hy => by have := h4 y (.inl hy); omega) bu br K hK).mono ?_
  rintro e w' ⟨rfl, ho, k1, k2⟩
  exact ⟨rfl, ho.mono (fun k hk => h4 k hk), S, T, k1, k2, h3, h4⟩

theorem heldX {lo hi K : Nat} {w : World} {vu vr : Value} {t : ByteArray} {u r : List (List Pt)} (h : HK K lo hi w vu vr u r) (bu : BdC u) (br : BdC r) (hK : 0 < K ∧ K + mkN u + mkN r ≤ 500000000) :
    Calls Tryd.prog 13 #[.agg #[.string t, vu, vr], .int .i64 (K : Int)] w fun e w' => e = .returned (.int .i64 (K + mkN u + mkN r : Nat)) ∧ Below w.heap.size w w' := by
  obtain ⟨S, T, h1, h2, -, -⟩ := h
  exact heldH_q h1 h2 bu br hK

theorem toX {w : World} {t : ByteArray} {vu vr : Value} {u r : List (List Pt)} (hu : ArgC w vu u) (hr : ArgC w vr r) (mu : szCn u ≤ 1048576) (mr : szCn r ≤ 1048576) :
    Calls Tryd.prog 16 #[.agg #[.string t, vu, vr]] w fun e w' => ∃ xu xr, e = .returned (.agg #[.string t, xu, xr]) ∧ HX w.heap.size w'.heap.size w' xu xr u r ∧ Below w.heap.size w w' := by
  refine (toH_cp hu hr mu mr).mono ?_
  rintro e w' ⟨xu, xr, m, rfl, h1, h2, h3, h4, h5⟩
  exact ⟨xu, xr, rfl, ⟨_, _, h3, h4, fun y hy c => by have := hy.2; have := c.1; omega, fun y hy => by rcases hy with hy | hy <;> (have := hy.1; have := hy.2; omega)⟩, h5⟩

/-- What a function that answers a history tells. -/
def HPost (w : World) (T : ByteArray) (U V : List (List Pt)) (b : Bool) (e : Ending) (w' : World) : Prop :=
  ∃ xu xr, e = .returned (.tuple #[.agg #[.string T, xu, xr], .bool b]) ∧ HX w.heap.size w'.heap.size w' xu xr U V ∧ Below w.heap.size w w'
end Go.Proofs.YtpeconmdmddkfaaDoor
