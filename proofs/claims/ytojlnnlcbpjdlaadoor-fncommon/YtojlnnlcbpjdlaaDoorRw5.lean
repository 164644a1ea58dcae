/- How many bytes are in common: the model's table of all places, and its DistanceOf. -/
import Derived.Test.YtojlnnlcbpjdlaaDoorRw4
set_option linter.unusedVariables false
namespace Go.Proofs.YtojlnnlcbpjdlaaDoor
open Go.RowKit
open Doc1

/-- A table of n + 1 rows of m + 1 numbers: its rows lie one behind the other above block B. -/
structure LtAt (w : World) (B n m : Nat) (F : Nat → Nat → Int) : Prop where
  c : ∀ i, i ≤ n → w.cell? ⟨B, i, none⟩ = some (.slice (some ⟨B + 1 + i, 0, none⟩) (m + 1) (m + 1))
  r : ∀ i, i ≤ n → RnAt w (B + 1 + i) (m + 1) (F i)
theorem LtAt.congr {w : World} {B n m : Nat} {F F' : Nat → Nat → Int} (h : LtAt w B n m F) (he : ∀ i, i ≤ n → ∀ k, k ≤ m → F i k = F' i k) : LtAt w B n m F' :=
  ⟨h.c, fun i hi => (h.r i hi).congr (fun k hk => he i hi k (by omega))⟩
theorem LtAt.lt {w : World} {B n m : Nat} {F : Nat → Nat → Int} (h : LtAt w B n m F) : B < w.heap.size := block_lt_of_cell (h.c 0 (Nat.zero_le _))
theorem LtAt.later {w w1 : World} {B n m : Nat} {F : Nat → Nat → Int} (h : LtAt w B n m F) (hb : Below w.heap.size w w1) : LtAt w1 B n m F :=
  ⟨fun i hi => (World.cell?_of_block (hb.block B h.lt)).trans (h.c i hi), fun i hi => (h.r i hi).later hb⟩
theorem LtAt.drew {w : World} {B n m : Nat} {F : Nat → Nat → Int} (h : LtAt w B n m F) : LtAt w.drew B n m F := h.later (Below.refl _ _).drew
theorem RnAt.farG {w : World} {g n : Nat} {f : Nat → Int} (h : RnAt w g n f) {g' k : Nat} (v : Value) (hg : g' ≠ g) : RnAt (w.setCell ⟨g', k, none⟩ v) g n f :=
  ⟨fun i hi => by rw [World.cell?_setCell_other _ _ _ _ (by simp only [ne_eq, Addr.mk.injEq, not_and]; intro e; exact absurd e hg)]; exact h.c i hi, fun i hi => by rw [World.frozen?_setCell]; exact h.z i hi, by rw [World.size_setCell]; exact h.l⟩
/-- One number of the table is written. -/
theorem LtAt.set {w : World} {B n m : Nat} {F : Nat → Nat → Int} (h : LtAt w B n m F) {i k : Nat} (v : Int) (hi : i ≤ n) (hk : k ≤ m) : LtAt (w.setCell ⟨B + 1 + i, k, none⟩ (.int .i64 v)) B n m (fun i' k' => if i' = i ∧ k' = k then v else F i' k') := by
  refine ⟨fun i' hi' => ?_, fun i' hi' => ?_⟩
  · rw [World.cell?_setCell_other _ _ _ _ (by simp only [ne_eq, Addr.mk.injEq, not_and]; omega)]
    exact h.c i' hi'
  · by_cases he : i' = i
    · subst he
      exact ((h.r i' hi').set v (by omega)).congr (fun j _ => by simp)
    · exact ((h.r i' hi').farG _ (by omega)).congr (fun j _ => by simp [he])
theorem rows_bytes : (Tryd.prog.info? 129).map (fun i => (i.zero, i.size, i.bytes)) = some (some (.slice none 0 0), 1, 24) := by kernel_rfl
theorem rowsS_made (n : Nat) (hn : n ≤ 1000000) (w : World) (k : IntKind) : (Instr.makeSlice 134 (.int k (n : Int)) (.int k (n : Int))).run Tryd.prog w = .ok (.slice (some ⟨w.heap.size, 0, none⟩) n n) (w.alloc (.cells (madeCells #[.slice none 0 0] n) 129)) := by
  have hi := rows_bytes
  cases hq : Tryd.prog.info? 129 with
  | none => rw [hq] at hi; cases hi
  | some i =>
    rw [hq] at hi
    simp only [Option.map_some, Option.some.injEq, Prod.mk.injEq] at hi
    have := run_make (P := Tryd.prog) w 134 129 i _ (by kernel_rfl) hq hi.1 k k (n : Int) (n : Int) (by omega) (Int.le_refl _) (by rw [hi.2.2]; omega) (by omega)
    rw [this]
    simp only [Int.toNat_natCast, hi.2.1, Nat.mul_one]
    rfl
/-- What is in common behind both places. -/
def lcF (a b : List UInt8) (i k : Nat) : Int := (lc (a.drop i) (b.drop k) : Int)
/-- The table that is half made: from place i, q on. -/
def lcM (a b : List UInt8) (i q i' k' : Nat) : Int := if i < i' ∨ (i' = i ∧ q ≤ k') then lcF a b i' k' else 0
theorem lc_bd (a b : List UInt8) : lc a b ≤ a.length := by
  have h1 := ed_lc a b
  have h2 := ed_most 2 a b
  have h3 := ed_is 2 _ a b (Nat.le_refl _)
  have h4 : b.length ≤ ed 2 a b + a.length := by
    have := ed_tri 2 [] a b
    rw [ed_nl, ed_nl] at this
    omega
  omega
theorem lcF_bd {a b : List UInt8} (ha : a.length ≤ 300) (i k : Nat) : 0 ≤ lcF a b i k ∧ lcF a b i k ≤ 300 := by
  unfold lcF
  have := lc_bd (a.drop i) (b.drop k)
  rw [List.length_drop] at this
  omega
theorem lcF_r (a b : ByteArray) (i : Nat) : lcF a.data.toList b.data.toList i b.size = 0 := by unfold lcF; rw [drop_end b _ (Nat.le_refl _), lc_nr]; rfl
theorem lcF_l (a b : ByteArray) (k : Nat) : lcF a.data.toList b.data.toList a.size k = 0 := by unfold lcF; rw [drop_end a _ (Nat.le_refl _), lc_nl]; rfl
theorem lcF_eq {a b : ByteArray} {i k : Nat} (hi : i < a.size) (hk : k < b.size) (h : a[i] = b[k]) : lcF a.data.toList b.data.toList i k = lcF a.data.toList b.data.toList (i + 1) (k + 1) + 1 := by
  unfold lcF; rw [drop_at a i hi, drop_at b k hk, lc_cc, if_pos h]; omega
theorem lcF_ne {a b : ByteArray} {i k : Nat} (hi : i < a.size) (hk : k < b.size) (h : ¬ a[i] = b[k]) : lcF a.data.toList b.data.toList i k = max (lcF a.data.toList b.data.toList (i + 1) k) (lcF a.data.toList b.data.toList i (k + 1)) := by
  unfold lcF; rw [drop_at a i hi, drop_at b k hk, lc_cc, if_neg h, ← drop_at a i hi, ← drop_at b k hk]; omega
theorem LtAt.step {w : World} {B n m : Nat} {a b : List UInt8} {i q : Nat} (h : LtAt w B n m (lcM a b i (q + 1))) (hi : i ≤ n) (hq : q ≤ m) {v : Int} (hv : v = lcF a b i q) : LtAt (w.setCell ⟨B + 1 + i, q, none⟩ (.int .i64 v)) B n m (lcM a b i q) := by
  refine (h.set v hi hq).congr (fun i' _ k' _ => ?_)
  unfold lcM
  by_cases he : i' = i ∧ k' = q
  · rw [if_pos he, if_pos (by omega), hv, he.1, he.2]
  · rw [if_neg he]
    by_cases h1 : i < i' ∨ i' = i ∧ q + 1 ≤ k'
    · rw [if_pos h1, if_pos (by omega)]
    · rw [if_neg h1, if_neg (by omega)]

set_option maxRecDepth 100000 in
set_option maxHeartbeats 8000000 in
theorem l9Table_any (a b : ByteArray) (w : World) (ha : a.size ≤ 300) (hb : b.size ≤ 300) :
    Calls Tryd.prog 98 #[.string a, .string b] w fun e w' => e = .returned (.slice (some ⟨w.heap.size, 0, none⟩) (a.size + 1) (a.size + 1)) ∧ LtAt w' w.heap.size a.size b.size (lcF a.data.toList b.data.toList) ∧ Below w.heap.size w w' := by
  have ec1 : ((a.size + 1 : Nat) : Int) = (a.size : Int) + 1 := by omega
  have ec2 : ((b.size + 1 : Nat) : Int) = (b.size : Int) + 1 := by omega
  have hmk := rowsS_made (a.size + 1) (by omega) w .i64
  rw [ec1] at hmk
  have hmr := fun w1 => ints_made (b.size + 1) (by omega) w1 .i64
  rw [ec2] at hmr
  have hw1 : IntKind.i64.wrap ((a.size : Int) + 1) = (a.size : Int) + 1 := by rw [IntKind.wrap_i64]; omega
  have hw2 : IntKind.i64.wrap ((b.size : Int) + 1) = (b.size : Int) + 1 := by rw [IntKind.wrap_i64]; omega
  have hh0 := heap_alloc_new w (.cells (madeCells #[.slice none 0 0] (a.size + 1)) 129)
  have hB0 : Below w.heap.size w (w.alloc (.cells (madeCells #[.slice none 0 0] (a.size + 1)) 129)) := (Below.refl _ _).alloc (Nat.le_refl _) _
  have hs0 : (w.alloc (.cells (madeCells #[.slice none 0 0] (a.size + 1)) 129)).heap.size = w.heap.size + 1 := by simp
  go_enter Tryd.func98, Tryd.ntmps98
  go_wp2
  generalize w.alloc (.cells (madeCells #[.slice none 0 0] (a.size + 1)) 129) = W0 at *
  clear hmk
  go_loopw [15] (fun x wr => ∃ k : Nat, k ≤ a.size + 1 ∧ x = .int .i64 k ∧ Hid (wr.heap.size = w.heap.size + 1 + k ∧ (∀ i, i < k → wr.cell? ⟨w.heap.size, i, none⟩ = some (.slice (some ⟨w.heap.size + 1 + i, 0, none⟩) (b.size + 1) (b.size + 1)) ∧ RnAt wr (w.heap.size + 1 + i) (b.size + 1) (fun _ => 0)) ∧ (∀ i, i < a.size + 1 → (∃ v, wr.cell? ⟨w.heap.size, i, none⟩ = some v) ∧ wr.frozen? ⟨w.heap.size, i, none⟩ = false) ∧ Below w.heap.size w wr)) (fun x _ => a.size + 1 - (intOf x).toNat)
  case atStart =>
    refine ⟨0, by omega, rfl, hide ⟨by omega, fun i hi => absurd hi (by omega), fun i hi => ⟨?_, frozen_of_row _ _ _ _ _ hh0⟩, hB0⟩⟩
    rw [cell_of_row _ _ _ _ _ _ hh0]
    exact ⟨_, Array.getElem?_eq_getElem (by rw [size_madeCells]; exact hi)⟩
  case round =>
    obtain ⟨k, hk, rfl, HR⟩ := hrel
    by_cases hlt : k < a.size + 1
    · obtain ⟨⟨v0, c1⟩, f1⟩ := HR.out.2.2.1 k hlt
      have hsz := HR.out.1
      have r0 := ints_new (b.size + 1) wr 3
      have c1' : (wr.alloc (.cells (madeCells #[.int .i64 0] (b.size + 1)) 3)).cell? ⟨w.heap.size, k, none⟩ = some v0 := (World.cell?_of_block (((Below.refl wr.heap.size wr).alloc (Nat.le_refl _) _).block _ (by show w.heap.size < _; omega))).trans c1
      have f1' : (wr.alloc (.cells (madeCells #[.int .i64 0] (b.size + 1)) 3)).frozen? ⟨w.heap.size, k, none⟩ = false := by
        have e := ((Below.refl wr.heap.size wr).alloc (Nat.le_refl _) (.cells (madeCells #[.int .i64 0] (b.size + 1)) 3)).block w.heap.size (by omega)
        unfold World.frozen? at f1 ⊢
        rw [e]
        exact f1
      have hbl : Below wr.heap.size wr (wr.alloc (.cells (madeCells #[.int .i64 0] (b.size + 1)) 3)) := (Below.refl _ _).alloc (Nat.le_refl _) _
      have hs1 : (wr.alloc (.cells (madeCells #[.int .i64 0] (b.size + 1)) 3)).heap.size = w.heap.size + 1 + k + 1 := by simp [hsz]
      have hmr' := hmr wr
      rw [hsz] at hmr' r0
      clear hmr
      go_wp2
      generalize wr.alloc (.cells (madeCells #[.int .i64 0] (b.size + 1)) 3) = W1 at *
      refine ⟨⟨k + 1, by omega, by go_num, hide ⟨by rw [World.size_setCell, hs1]; omega, fun i hi => ?_, fun i hi => ?_, (HR.out.2.2.2.trans (hbl.mono (by omega))).setCell (p := ⟨w.heap.size, k, none⟩) (Nat.le_refl _) _⟩⟩, by simp [intOf]; omega⟩
      · by_cases he : i = k
        · subst he
          exact ⟨World.cell?_setCell_same _ _ _ c1', r0.farG _ (by omega)⟩
        · have hi' := HR.out.2.1 i (by omega)
          exact ⟨by rw [World.cell?_setCell_other _ _ _ _ (by simp only [ne_eq, Addr.mk.injEq, true_and, and_true]; omega)]; exact (World.cell?_of_block (hbl.block _ (by show w.heap.size < _; omega))).trans hi'.1, (hi'.2.later hbl).farG _ (by omega)⟩
      · obtain ⟨⟨v, hv⟩, hf⟩ := HR.out.2.2.1 i hi
        refine ⟨?_, ?_⟩
        · by_cases he : i = k
          · subst he; exact ⟨_, World.cell?_setCell_same _ _ _ c1'⟩
          · exact ⟨v, by rw [World.cell?_setCell_other _ _ _ _ (by simp only [ne_eq, Addr.mk.injEq, true_and, and_true]; omega)]; exact (World.cell?_of_block (hbl.block _ (by show w.heap.size < _; omega))).trans hv⟩
        · rw [World.frozen?_setCell]
          have e := hbl.block w.heap.size (by omega)
          unfold World.frozen? at hf ⊢
          rw [e]
          exact hf
    · have HQ : Hid (LtAt wr w.heap.size a.size b.size (lcM a.data.toList b.data.toList a.size 0) ∧ Below w.heap.size w wr) := hide ⟨(LtAt.mk (F := fun _ _ => 0) (fun i hi => (HR.out.2.1 i (by omega)).1) (fun i hi => (HR.out.2.1 i (by omega)).2)).congr (fun i hi k _ => by
        unfold lcM
        by_cases he : i = a.size
        · rw [he, if_pos (by omega), lcF_l]
        · rw [if_neg (by omega)]), HR.out.2.2.2⟩
      clear HR hmr hB0 hh0 hs0
      go_wp2
      go_loopw [7] (fun x w1 => ∃ p : Nat, p ≤ a.size ∧ x = .int .i64 ((p : Int) - 1) ∧ Hid (LtAt w1 w.heap.size a.size b.size (lcM a.data.toList b.data.toList p 0) ∧ Below w.heap.size w w1)) (fun x _ => (intOf x + 1).toNat)
      case atStart => exact ⟨a.size, by omega, rfl, HQ⟩
      case round =>
        obtain ⟨p, hp, rfl, HP⟩ := hrel
        clear HQ
        cases p with
        | zero =>
          go_wp2
          go_ret
          exact ⟨rfl, HP.out.1.congr (fun i _ k _ => by unfold lcM; rw [if_pos (by omega)]), HP.out.2⟩
        | succ p =>
          have hpa : p < a.size := by omega
          have ek : (((p + 1 : Nat) : Int) - 1) = (p : Int) := by omega
          rw [ek]
          have HS : Hid (LtAt wr w.heap.size a.size b.size (lcM a.data.toList b.data.toList p b.size) ∧ Below w.heap.size w wr) := hide ⟨HP.out.1.congr (fun i _ k hk => by
            unfold lcM
            by_cases h1 : p + 1 < i ∨ i = p + 1 ∧ 0 ≤ k
            · rw [if_pos h1, if_pos (by omega)]
            · rw [if_neg h1]
              by_cases h2 : p < i ∨ i = p ∧ b.size ≤ k
              · rw [if_pos h2, show k = b.size by omega, lcF_r]
              · rw [if_neg h2]), HP.out.2⟩
          clear HP
          go_wp2
          go_loopw [8] (fun x w1 => ∃ q : Nat, q ≤ b.size ∧ x = .int .i64 ((q : Int) - 1) ∧ Hid (LtAt w1 w.heap.size a.size b.size (lcM a.data.toList b.data.toList p q) ∧ Below w.heap.size w w1)) (fun x _ => (intOf x + 1).toNat)
          case atStart => exact ⟨b.size, by omega, rfl, HS⟩
          case round =>
            obtain ⟨q, hq, rfl, HR⟩ := hrel
            clear HS
            cases q with
            | zero =>
              go_wp2
              refine ⟨⟨p, by omega, rfl, HR⟩, by simp [intOf]⟩
            | succ q =>
              have hqb : q < b.size := by omega
              have ek2 : (((q + 1 : Nat) : Int) - 1) = (q : Int) := by omega
              rw [ek2]
              have s0 := HR.out.1.c p (by omega)
              have s1 := HR.out.1.c (p + 1) (by omega)
              have c0 := (HR.out.1.r p (by omega)).c q (by omega)
              have f0 := (HR.out.1.r p (by omega)).z q (by omega)
              have c1 := (HR.out.1.r p (by omega)).c (q + 1) (by omega)
              have d0 := (HR.out.1.r (p + 1) (by omega)).c q (by omega)
              have d1 := (HR.out.1.r (p + 1) (by omega)).c (q + 1) (by omega)
              have e1 : lcM a.data.toList b.data.toList p (q + 1) p (q + 1) = lcF a.data.toList b.data.toList p (q + 1) := by unfold lcM; rw [if_pos (by omega)]
              have e2 : lcM a.data.toList b.data.toList p (q + 1) (p + 1) q = lcF a.data.toList b.data.toList (p + 1) q := by unfold lcM; rw [if_pos (by omega)]
              have e3 : lcM a.data.toList b.data.toList p (q + 1) (p + 1) (q + 1) = lcF a.data.toList b.data.toList (p + 1) (q + 1) := by unfold lcM; rw [if_pos (by omega)]
              rw [e1] at c1
              rw [e2] at d0
              rw [e3] at d1
              have b1 := lcF_bd (a := a.data.toList) (b := b.data.toList) (by simpa using ha) p (q + 1)
              have b2 := lcF_bd (a := a.data.toList) (b := b.data.toList) (by simpa using ha) (p + 1) q
              have b3 := lcF_bd (a := a.data.toList) (b := b.data.toList) (by simpa using ha) (p + 1) (q + 1)
              by_cases he : a[p] = b[q]
              · have hq1 : ((a[p].toNat : Int) == (b[q].toNat : Int)) = true := u8_beq he
                have HV := hide (lcF_eq hpa hqb he)
                clear he e1 e2 e3 c1 d0 b1 b2
                obtain ⟨y, hy⟩ : ∃ y, lcF a.data.toList b.data.toList (p + 1) (q + 1) = y := ⟨_, rfl⟩
                rw [hy] at d1 b3 HV
                clear hy
                go_wp2
                go_region
                go_wp2
                go_region
                go_wp2
                exact ⟨⟨q, by omega, rfl, hide ⟨(HR.out.1.step (by omega) (by omega) (by first | exact HV.out.symm | (rw [HV.out]; omega))).drew.drew, (HR.out.2.setCell (p := ⟨w.heap.size + 1 + p, q, none⟩) (by show _ ≤ _ + 1 + p; omega) _).drew.drew⟩⟩, by simp [intOf]⟩
              · have hq1 : ((a[p].toNat : Int) == (b[q].toNat : Int)) = false := u8_bne he
                have HV := hide (lcF_ne hpa hqb he)
                clear he e1 e2 e3 d1 b3
                obtain ⟨y1, hy1⟩ : ∃ y, lcF a.data.toList b.data.toList p (q + 1) = y := ⟨_, rfl⟩
                obtain ⟨y2, hy2⟩ : ∃ y, lcF a.data.toList b.data.toList (p + 1) q = y := ⟨_, rfl⟩
                rw [hy1] at c1 b1 HV
                rw [hy2] at d0 b2 HV
                clear hy1 hy2
                by_cases hge : y1 ≤ y2
                · go_wp2
                  go_region
                  go_wp2
                  go_region
                  go_wp2
                  go_region
                  go_wp2
                  exact ⟨⟨q, by omega, rfl, hide ⟨(HR.out.1.step (by omega) (by omega) (by first | exact HV.out.symm | (rw [HV.out]; omega))).drew.drew.drew, (HR.out.2.setCell (p := ⟨w.heap.size + 1 + p, q, none⟩) (by show _ ≤ _ + 1 + p; omega) _).drew.drew.drew⟩⟩, by simp [intOf]⟩
                · go_wp2
                  go_region
                  go_wp2
                  go_region
                  go_wp2
                  go_region
                  go_wp2
                  exact ⟨⟨q, by omega, rfl, hide ⟨(HR.out.1.step (by omega) (by omega) (by first | exact HV.out.symm | (rw [HV.out]; omega))).drew.drew.drew, (HR.out.2.setCell (p := ⟨w.heap.size + 1 + p, q, none⟩) (by show _ ≤ _ + 1 + p; omega) _).drew.drew.drew⟩⟩, by simp [intOf]⟩

set_option maxHeartbeats 2000000 in
theorem l9Distance_any (a b : ByteArray) (w : World) (ha : a.size ≤ 300) (hb : b.size ≤ 300) :
    Calls Tryd.prog 92 #[.string a, .string b] w fun e w' => e = .returned (.int .i64 (ed 2 a.data.toList b.data.toList : Int)) ∧ Below w.heap.size w w' := by
  have T := hide (l9Table_any a b w ha hb)
  have b1 := lcF_bd (a := a.data.toList) (b := b.data.toList) (by simpa using ha) 0 0
  have HE : Hid ((a.size : Int) + (b.size : Int) - 2 * lcF a.data.toList b.data.toList 0 0 = (ed 2 a.data.toList b.data.toList : Int)) := hide (by
    have := ed_lc a.data.toList b.data.toList
    unfold lcF
    simp only [List.drop_zero]
    simp only [Array.length_toList, ByteArray.size_data] at this
    omega)
  obtain ⟨y, hy⟩ : ∃ y, lcF a.data.toList b.data.toList 0 0 = y := ⟨_, rfl⟩
  have HY := hide hy
  rw [hy] at b1 HE
  clear hy
  go_enter Tryd.func92, Tryd.ntmps92
  go_wp2_with fail
  refine T.out.mono ?_
  rintro e w1 ⟨rfl, hL, hb1⟩
  have c0 := hL.c 0 (Nat.zero_le _)
  have c1 := (hL.r 0 (Nat.zero_le _)).c 0 (by omega)
  rw [HY.out] at c1
  simp only [Nat.add_zero] at c0 c1
  clear hL T
  go_wp2
  go_ret
  exact ⟨by rw [HE.out]; rfl, hb1⟩

set_option maxHeartbeats 2000000 in
theorem distS_any (a b : ByteArray) (w : World) (ha : a.size ≤ 1048576) (hb : b.size ≤ 1048576) :
    Calls Tryd.prog 38 #[.string a, .string b] w fun e w' => e = .returned (.tuple #[.int .i64 (edA 2 a.data.toList b.data.toList), .bool (good a.data.toList && good b.data.toList)]) ∧ Below w.heap.size w w' := by
  have H1 := l9Texts_any a b w ha hb
  unfold edA
  by_cases h : (good a.data.toList && good b.data.toList) = true
  · rw [h] at H1 ⊢
    rw [Bool.and_eq_true] at h
    have H2 := hide (l9Distance_any a b w (good_len' h.1) (good_len' h.2))
    replace H1 := hide H1
    rw [if_pos rfl]
    clear h
    go_enter Tryd.func38, Tryd.ntmps38
    go_wp2_with fail
    refine H1.out.mono ?_
    rintro e w' ⟨rfl, hw⟩
    replace hw := hw.symm
    subst hw
    go_wp2_with fail
    refine H2.out.mono ?_
    rintro e w' ⟨rfl, hb⟩
    go_wp2
    go_ret2
    exact ⟨rfl, hb⟩
  · rw [Bool.not_eq_true] at h
    rw [h] at H1 ⊢
    replace H1 := hide H1
    clear h
    go_enter Tryd.func38, Tryd.ntmps38
    go_wp2_with fail
    refine H1.out.mono ?_
    rintro e w' ⟨rfl, hw⟩
    replace hw := hw.symm
    subst hw
    go_wp2
    go_ret2
    exact ⟨rfl, Below.refl _ _⟩
end Go.Proofs.YtojlnnlcbpjdlaaDoor
