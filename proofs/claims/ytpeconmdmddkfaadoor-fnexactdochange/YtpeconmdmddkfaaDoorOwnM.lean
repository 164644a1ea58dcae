/- Changes of more than sixty parts are refused, whatever they hold. The contracts of the functions over changes at rows of one's own, however long these are. The laws' sameOps: two rows of the same parts. -/
import Derived.Test.YtpeconmdmddkfaaDoorOpW9M
import Derived.Test.YtpeconmdmddkfaaDoorOpOnM
import Derived.Test.YtpeconmdmddkfaaDoorInv1
import Derived.Test.YtpeconmdmddkfaaDoorRowsPart
import Derived.Test.YtpeconmdmddkfaaDoorSamO
import Derived.Test.YtpeconmdmddkfaaDoorCells
import Derived.Deep.QuietTactic
import Derived.BigQuiet
namespace Go.Proofs.YtpeconmdmddkfaaDoor
open Go.RowKit
open Doc1

set_option maxRecDepth 100000 in
theorem sizesI_big {w : World} (a : Option Addr) (n cap : Nat) (h60 : 60 < n) :
    Calls Tryd.prog 75 #[.slice a n cap] w fun e w' => e = .returned (.tuple #[.int .i64 0, .int .i64 0, .bool false]) ∧ Below w.heap.size w w' := by
  have h61 : (60 : Int) < (n : Int) := by omega
  go_enter Tryd.func75, Tryd.ntmps75
  go_wp2
  refine bodyPost_ret (v := .tuple #[.int .i64 0, .int .i64 0, .bool false]) (by simp [results, Tryd.results75, go_sem]) rfl ⟨rfl, ?_⟩
  exact (((Below.refl _ _).alloc (Nat.le_refl _) _).alloc (by simp) _).alloc (by simp; omega) _

set_option maxRecDepth 100000 in
theorem goodOpI_big {w : World} (a : Option Addr) (n cap : Nat) (h60 : 60 < n) :
    Calls Tryd.prog 155 #[.slice a n cap] w fun e w' => e = .returned (.bool false) ∧ Below w.heap.size w w' := by
  have S := hide (sizesI_big (w := w) a n cap h60)
  go_enter Tryd.func155, Tryd.ntmps155
  go_wp2_with fail
  refine S.out.mono ?_
  rintro e w1 ⟨rfl, hb⟩
  go_wp2
  go_ret
  exact ⟨rfl, hb⟩

set_option maxRecDepth 100000 in
theorem goodOpS_big {w : World} (a : Option Addr) (n cap : Nat) (h60 : 60 < n) :
    Calls Tryd.prog 59 #[.slice a n cap] w fun e w' => e = .returned (.bool false) ∧ Below w.heap.size w w' := by
  have h61 : (60 : Int) < (n : Int) := by omega
  go_enter Tryd.func59, Tryd.ntmps59
  go_wp2
  go_ret
  exact ⟨rfl, Below.refl _ _⟩

set_option maxRecDepth 100000 in
theorem invertI_big {w : World} (a : Option Addr) (n cap : Nat) (h60 : 60 < n) :
    Calls Tryd.prog 126 #[.slice a n cap] w fun e w' => ∃ v, e = .returned (.tuple #[v, .bool false]) ∧ POwn w' w.heap.size v [] ∧ Below w.heap.size w w' := by
  have S := hide (goodOpI_big (w := w) a n cap h60)
  go_enter Tryd.func126, Tryd.ntmps126
  go_wp2_with fail
  refine S.out.mono ?_
  rintro e w1 ⟨rfl, hb⟩
  go_wp2
  go_ret2
  exact ⟨_, rfl, World.ownsRow_nil _ _ _ _, hb⟩

set_option maxRecDepth 100000 in
set_option maxHeartbeats 4000000 in
theorem applyI_big {w : World} (a : Option Addr) (n cap : Nat) (s : ByteArray) (h60 : 60 < n) :
    Calls Tryd.prog 26 #[.slice a n cap, .string s] w fun e w' => e = .returned (.tuple #[.string ⟨#[]⟩, .bool false]) ∧ Below w.heap.size w w' := by
  have hb0 : Hid (∀ a b c : Obj, Below w.heap.size w (((w.alloc a).alloc b).alloc c)) := hide (fun a b c => (((Below.refl _ _).alloc (Nat.le_refl _) _).alloc (by simp) _).alloc (by simp; omega) _)
  have S := hide (fun w' (_ : Below w.heap.size w w') => sizesI_big (w := w') a n cap h60)
  go_enter Tryd.func26, Tryd.ntmps26
  go_wp2_with (go_at_call 75; refine (S.out _ (hb0.out _ _ _)).mono ?_; rintro e w1 ⟨rfl, hb1⟩; obtain ⟨⟨q1, q2, q3⟩, hsw, hbw⟩ := boxes3_up hb1; have e1 := q1.cell; have e2 := q2.cell; have f2 := q2.fz; have e3 := (q3.other (B' := w.heap.size + 1) (by omega) (.string ⟨#[]⟩)).cell; have f3 := (q3.other (B' := w.heap.size + 1) (by omega) (.string ⟨#[]⟩)).fz; have k1 := ((q2.set (.string ⟨#[]⟩)).other (B' := w.heap.size + 1 + 1) (by omega) (.bool false)).cell; have k2 := ((q3.other (B' := w.heap.size + 1) (by omega) (.string ⟨#[]⟩)).set (.bool false)).cell)
  refine bodyPost_ret (v := .tuple #[.string ⟨#[]⟩, .bool false]) (by simp [results, Tryd.results26, go_sem, k1, k2]) rfl ⟨rfl, ?_⟩
  exact (hbw.setCell (p := ⟨w.heap.size + 1, 0, none⟩) (by show _ ≤ _ + 1; omega) _).setCell (p := ⟨w.heap.size + 1 + 1, 0, none⟩) (by show _ ≤ _ + 1 + 1; omega) _
end Go.Proofs.YtpeconmdmddkfaaDoor

namespace Go.Proofs.YtpeconmdmddkfaaDoor
open Go.RowKit
open Doc1

theorem smP_sz {l : List Pt} (h : ∀ p ∈ l, smP p) : ∀ i (hi : i < l.length), l[i].put.size ≤ 1048576 ∧ l[i].drop.size ≤ 1048576 := fun i hi => by
  have := h _ (List.getElem_mem hi)
  exact ⟨by have := this.2.1; omega, by have := this.2.2; omega⟩

theorem no_big {l : List Pt} (h : ¬ l.length ≤ 1048576) : goodO l = false := goodO_no_len (by omega)

theorem gq_smP {l : List Pt} (h : goodO l = true) : ∀ p ∈ l, smP p := fun p hp => by
  have := pk_sizes (goodO_pk h p hp)
  exact ⟨⟨by omega, by omega⟩, this.2.1, this.2.2.1⟩

theorem invO_smP (l : List Pt) : ∀ p ∈ invO l, smP p := by
  by_cases h : goodO l = true
  · exact gq_smP (good_invO h).1
  · have e : invO l = [] := by unfold invO; rw [if_neg h]
    rw [e]; intro p hp; cases hp

theorem own_sl {w : World} {B : Nat} {v : Value} {l : List Pt} (h : POwn w B v l) : ∃ a cap, v = .slice a l.length cap := by
  obtain ⟨a, cap, e, -, -⟩ := own_shp h
  exact ⟨a, cap, e⟩

theorem applyI_own {w : World} {B : Nat} {v : Value} {l : List Pt} (s : ByteArray) (h : POwn w B v l) (hT : Tab w) (hm : ∀ p ∈ l, smP p) (hs : s.size ≤ 1048576) :
    Calls Tryd.prog 26 #[v, .string s] w fun e w' => e = .returned (.tuple #[.string (aplO l s).1, .bool (aplO l s).2]) ∧ Below w.heap.size w w' := by
  by_cases hl : l.length ≤ 1048576
  · obtain ⟨aw, g, cap, rfl, hp⟩ := own_pin h hT (smP_sz hm) hl
    exact applyI s hp hT hs
  · obtain ⟨a, cap, rfl⟩ := own_sl h
    have e : aplO l s = (⟨#[]⟩, false) := by unfold aplO; rw [no_big hl]; simp
    rw [e]
    exact applyI_big a l.length cap s (by omega)

theorem invertI_own {w : World} {B : Nat} {v : Value} {l : List Pt} (h : POwn w B v l) (hT : Tab w) (hm : ∀ p ∈ l, smP p) :
    Calls Tryd.prog 126 #[v] w fun e w' => ∃ v, e = .returned (.tuple #[v, .bool (goodO l)]) ∧ POwn w' w.heap.size v (invO l) ∧ Below w.heap.size w w' := by
  by_cases hl : l.length ≤ 1048576
  · obtain ⟨aw, g, cap, rfl, hp⟩ := own_pin h hT (smP_sz hm) hl
    exact invertI hp hT
  · obtain ⟨a, cap, rfl⟩ := own_sl h
    have e : invO l = [] := by unfold invO; rw [no_big hl]; rfl
    rw [e, no_big hl]
    exact invertI_big a l.length cap (by omega)

theorem sizesI_own {w : World} {B : Nat} {v : Value} {l : List Pt} (h : POwn w B v l) (hT : Tab w) (hm : ∀ p ∈ l, smP p) :
    Calls Tryd.prog 75 #[v] w fun e w' => e = .returned (.tuple #[.int .i64 (szT l), .int .i64 (szM l), .bool (goodO l)]) ∧ Below w.heap.size w w' := by
  by_cases hl : l.length ≤ 1048576
  · obtain ⟨aw, g, cap, rfl, hp⟩ := own_pin h hT (smP_sz hm) hl
    exact sizesI_any hp hT
  · obtain ⟨a, cap, rfl⟩ := own_sl h
    unfold szT szM
    rw [no_big hl]
    exact sizesI_big a l.length cap (by omega)

end Go.Proofs.YtpeconmdmddkfaaDoor
