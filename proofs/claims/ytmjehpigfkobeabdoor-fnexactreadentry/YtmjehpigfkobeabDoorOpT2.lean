/- The program's partText; the model's OpText. -/
import Derived.Test.YtmjehpigfkobeabDoorOpT1
import Derived.Test.YtmjehpigfkobeabDoorOpWA
set_option linter.unusedVariables false
namespace Go.Proofs.YtmjehpigfkobeabDoor
open Go.RowKit Go.Shelf
open Doc1

attribute [local go_sem] Oper.semAt_some

/-- The powers of ten are laid. -/
def TabP (w : World) : Prop := Lib.TabIs Tryd.prog w "internal/strconv.uint64pow10" .u64 Lib.pow10Tab
theorem TabP.below {w w' : World} (h : TabP w) (hb : Below w.heap.size w w') : TabP w' := by
  unfold TabP Lib.TabIs World.var? at h ⊢
  cases hg : Tryd.prog.globalNamed "internal/strconv.uint64pow10" with
  | none => rw [hg] at h; cases h
  | some g =>
    rw [hg] at h
    simp only [Option.bind_some] at h ⊢
    have hlt : g < w.heap.size := by
      rcases Nat.lt_or_ge g w.heap.size with c | c
      · exact c
      · rw [Array.getElem?_eq_none c] at h; cases h
    rw [hb.block g hlt]
    exact h
def TabN (w : World) : Prop := Tab w ∧ TabP w
theorem TabN.below {w w' : World} (h : TabN w) (hb : Below w.heap.size w w') : TabN w' := ⟨h.1.below hb, h.2.below hb⟩
theorem below_grow {B : Nat} {w : World} (k : Nat) (os : Array Obj) : Below w.heap.size w (Go.Sort.grow (w.drewN k) os) := by
  refine ⟨rfl, rfl, rfl, ?_, fun i hi => ?_⟩
  · show w.heap.size ≤ (w.heap ++ os).size
    simp
  · show (w.heap ++ os)[i]? = w.heap[i]?
    rw [Array.getElem?_append_left hi]
theorem itoa_any (n : Nat) (hn : n ≤ 9000000000000000000) (w : World) (hT : TabP w) :
    Calls Tryd.prog 69 #[.int .i64 n] w fun e w' => e = .returned (.string (baD n)) ∧ Below w.heap.size w w' :=
  (Tryd.strconv_Itoa n (by omega) (by omega) w hT).mono fun e w' ⟨he, k, os, hw⟩ => by
    subst hw
    refine ⟨?_, below_grow (B := 0) k os⟩
    rw [he]
    unfold Lib.itoa
    rw [if_neg (by omega)]
    rfl

set_option maxRecDepth 100000 in
set_option maxHeartbeats 4000000 in
theorem partText_any (p : Pt) (w : World) (hp : pk p ≠ 0) (hT : TabP w) :
    Calls Tryd.prog 95 #[.int .i64 (pk p : Int), ptV p] w fun e w' => e = .returned (.string (prB p)) ∧ Below w.heap.size w w' := by
  unfold ptV
  rcases pk_cases hp with c | c | c
  · have hk0 : 0 < p.keep := by omega
    have e1 := hide (prB_1 hk0)
    have hD : (baD p.keep.toNat).size ≤ 301 := by have := baD_size p.keep.toNat; omega
    have NU := fun w' (hb : Below w.heap.size w w') => itoa_any p.keep.toNat (by omega) w' (hT.below hb)
    rw [Int.toNat_of_nonneg (by omega)] at NU
    rw [c.1]
    generalize baD p.keep.toNat = D at *
    replace NU := hide NU
    clear c hT hp
    go_enter Tryd.func95, Tryd.ntmps95
    go_wp2_with fail
    refine (NU.out _ ((Below.refl _ _).alloc (Nat.le_refl _) _)).mono ?_
    rintro e w2 ⟨rfl, hb2⟩
    go_wp2
    go_ret
    exact ⟨by rw [e1.out]; rfl, ((Below.refl _ w).alloc (Nat.le_refl _) _).trans (hb2.mono (by simp))⟩
  · have hk0 : ¬ 0 < p.keep := by omega
    have e1 := hide (prB_2 hk0 c.2.2.2.1)
    have hz : p.put.size ≤ 300 := by rw [szB]; exact good_len c.2.2.2.2
    rw [c.1]
    clear c hT hp
    go_enter Tryd.func95, Tryd.ntmps95
    go_wp2
    go_ret
    exact ⟨by rw [e1.out]; rfl, (Below.refl _ w).alloc (Nat.le_refl _) _⟩
  · have hk0 : ¬ 0 < p.keep := by omega
    have e1 := hide (prB_3 hk0 (by simpa using c.2.2.1))
    have hz : p.drop.size ≤ 300 := by rw [szB]; exact good_len c.2.2.2.2
    rw [c.1]
    clear c hT hp
    go_enter Tryd.func95, Tryd.ntmps95
    go_wp2
    go_ret
    exact ⟨by rw [e1.out]; rfl, (Below.refl _ w).alloc (Nat.le_refl _) _⟩

/-- What both answer. -/
def opR (l : List Pt) : ByteArray := if goodO l then opB l else ⟨#[]⟩

end Go.Proofs.YtmjehpigfkobeabDoor
