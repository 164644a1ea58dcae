/- The contracts of the model's l3Splice and SpliceOp. -/
import Derived.Test.YtknilofnelhgmabDoorSpS1
import Derived.Test.YtknilofnelhgmabDoorWalksQ
namespace Go.Proofs.YtknilofnelhgmabDoor
open Go.RowKit
open Doc1

/-- What l3Splice answers. -/
def spT (s put : ByteArray) (a b : Nat) : List Pt := if s.extract a b = put then keepL (s.size : Int) else normL (spN s put a b)
theorem keep_add (n : Nat) (h : n ≤ 300) : addP [] ⟨(n : Int), ⟨#[]⟩, ⟨#[]⟩⟩ = keepL (n : Int) := by
  unfold keepL
  by_cases h0 : n = 0
  · subst h0; rw [addP_nth ⟨rfl, rfl, rfl⟩, if_neg (by omega)]
  · rw [if_pos (by omega)]
    unfold addP
    rw [if_neg (fun c => h0 (by have := c.1; simp at this; omega))]
    rfl
theorem bd_add {l : List Pt} {p : Pt} {M : Nat} (hl : ∀ q ∈ l, Bd M q) (hp : nth p ∨ pk p ≠ 0) : ∀ q ∈ addP l p, Bd (M + 300) q := by
  rcases hp with h | h
  · rw [addP_nth h]; exact fun q hq => (hl q hq).mono (by omega)
  · exact addP_Bd hl (pk_Bd h)

set_option maxRecDepth 100000 in
set_option maxHeartbeats 4000000 in
theorem l3Splice_any {w : World} {s put : ByteArray} {a b : Nat} (hs : good s.data.toList = true) (hp : good put.data.toList = true) (ha : a ≤ b) (hb : b ≤ s.size) :
    Calls Tryd.prog 16 #[.string s, .int .i64 (a : Int), .int .i64 (b : Int), .string put] w fun e w' => ∃ v, e = .returned v ∧ POwn w' w.heap.size v (spT s put a b) ∧ Below w.heap.size w w' := by
  have hl := good_len hs
  rw [← sz_list] at hl
  have hpk := spL_pk hs hp ha hb
  have nil : ∀ B : Nat, POwn w B (.slice none 0 0) [] := fun B => World.ownsRow_nil _ _ _ _
  have i1 : (0 : Int) ≤ (a : Int) := by omega
  have i2 : (a : Int) ≤ (b : Int) := by omega
  have i3 : (b : Int) ≤ (s.size : Int) := by omega
  obtain ⟨D, hD⟩ : ∃ D, s.extract a b = D := ⟨_, rfl⟩
  obtain ⟨n2, hn2⟩ : ∃ n2, s.size - b = n2 := ⟨_, rfl⟩
  have hsub : (s.size : Int) - (b : Int) = (n2 : Int) := by omega
  unfold spT
  by_cases he : s.extract a b = put
  · rw [if_pos he, ← keep_add _ hl]
    rw [hD] at he
    subst he
    have hbe : (D.toList == D.toList) = true := by simp
    have A := hide (l3Add_opt (w := w) (B := w.heap.size) (l := []) ⟨(s.size : Int), ⟨#[]⟩, ⟨#[]⟩⟩ (nil _) (Nat.le_refl _) (by simp) (by simp) (by
      by_cases h0 : s.size = 0
      · exact .inl ⟨by simp [h0], rfl, rfl⟩
      · right
        unfold pk
        rw [if_pos ⟨rfl, rfl, by simp; omega, by simp; omega⟩]
        omega))
    unfold ptV at A
    clear hpk nil
    go_enter Tryd.func16, Tryd.ntmps16
    go_wp2_with fail
    refine A.out.mono ?_
    rintro e w1 ⟨v1, rfl, o1, hb1⟩
    go_wp2
    go_ret
    exact ⟨_, rfl, o1, hb1⟩
  · rw [if_neg he, spN_norm]
    have hbe : (D.toList == put.toList) = false := by
      rw [← hD]
      simp only [beq_eq_false_iff_ne, ne_eq]
      intro c
      exact he (ba_ext (by rw [← ByteArray.toList_eq, ← ByteArray.toList_eq]; exact c))
    rw [show spL s put a b = [⟨(a : Int), ⟨#[]⟩, ⟨#[]⟩⟩, ⟨0, put, ⟨#[]⟩⟩, ⟨0, ⟨#[]⟩, D⟩, ⟨(n2 : Int), ⟨#[]⟩, ⟨#[]⟩⟩] by unfold spL; rw [hD, hn2]] at hpk ⊢
    have p1 := hpk _ (by simp : (⟨(a : Int), ⟨#[]⟩, ⟨#[]⟩⟩ : Pt) ∈ _)
    have p2 := hpk ⟨0, put, ⟨#[]⟩⟩ (by simp)
    have p3 := hpk ⟨0, ⟨#[]⟩, D⟩ (by simp)
    have p4 := hpk ⟨(n2 : Int), ⟨#[]⟩, ⟨#[]⟩⟩ (by simp)
    simp only [List.foldl_cons, List.foldl_nil]
    have bd0 : ∀ q ∈ ([] : List Pt), Bd 0 q := fun q hq => by cases hq
    have bd1 := bd_add bd0 p1
    have bd2 := bd_add bd1 p2
    have bd3 := bd_add bd2 p3
    have ln1 := addP_len [] ⟨(a : Int), ⟨#[]⟩, ⟨#[]⟩⟩
    have ln2 := addP_len (addP [] ⟨(a : Int), ⟨#[]⟩, ⟨#[]⟩⟩) ⟨0, put, ⟨#[]⟩⟩
    have ln3 := addP_len (addP (addP [] ⟨(a : Int), ⟨#[]⟩, ⟨#[]⟩⟩) ⟨0, put, ⟨#[]⟩⟩) ⟨0, ⟨#[]⟩, D⟩
    simp only [List.length_nil] at ln1
    have A1 := hide (fun (w' : World) v (h : POwn w' w.heap.size v []) (hB : w.heap.size ≤ w'.heap.size) => l3Add_opt _ h hB (by simp) (by simp) p1)
    have A2 := hide (fun (w' : World) v (h : POwn w' w.heap.size v _) (hB : w.heap.size ≤ w'.heap.size) => l3Add_opt _ h hB (by omega) (fun q hq => (bd1 q hq).mono (by omega)) p2)
    have A3 := hide (fun (w' : World) v (h : POwn w' w.heap.size v _) (hB : w.heap.size ≤ w'.heap.size) => l3Add_opt _ h hB (by omega) (fun q hq => (bd2 q hq).mono (by omega)) p3)
    have A4 := hide (fun (w' : World) v (h : POwn w' w.heap.size v _) (hB : w.heap.size ≤ w'.heap.size) => l3Add_opt _ h hB (by omega) (fun q hq => (bd3 q hq).mono (by omega)) p4)
    have hnil := nil w.heap.size
    unfold ptV at A1 A2 A3 A4
    clear hpk p1 p2 p3 p4 bd0 bd1 bd2 bd3 ln1 ln2 ln3 nil he
    go_enter Tryd.func16, Tryd.ntmps16
    go_wp2_with fail
    refine (A1.out _ _ hnil (Nat.le_refl _)).mono ?_
    rintro e w1 ⟨v1, rfl, o1, hb1⟩
    go_wp2_with fail
    refine (A2.out _ _ o1 hb1.size).mono ?_
    rintro e w2 ⟨v2, rfl, o2, hb2⟩
    replace hb2 := hb1.trans hb2
    go_wp2_with fail
    refine (A3.out _ _ o2 hb2.size).mono ?_
    rintro e w3 ⟨v3, rfl, o3, hb3⟩
    replace hb3 := hb2.trans hb3
    go_wp2_with fail
    refine (A4.out _ _ o3 hb3.size).mono ?_
    rintro e w4 ⟨v4, rfl, o4, hb4⟩
    go_wp2
    go_ret
    exact ⟨_, rfl, o4, hb3.trans hb4⟩
end Go.Proofs.YtknilofnelhgmabDoor
