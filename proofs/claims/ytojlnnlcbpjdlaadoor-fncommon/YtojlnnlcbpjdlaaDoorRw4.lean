/- How many edits: the model's EditsOf, a row of numbers over the beginnings of both texts. -/
import Derived.Test.YtojlnnlcbpjdlaaDoorRw3
set_option linter.unusedVariables false
namespace Go.Proofs.YtojlnnlcbpjdlaaDoor
open Go.RowKit
open Doc1

/-- A row of n numbers lies in block g, and may be written. -/
structure RnAt (w : World) (g n : Nat) (f : Nat → Int) : Prop where
  c : ∀ j, j < n → w.cell? ⟨g, j, none⟩ = some (.int .i64 (f j))
  z : ∀ j, j < n → w.frozen? ⟨g, j, none⟩ = false
  l : g < w.heap.size
theorem RnAt.congr {w : World} {g n : Nat} {f f' : Nat → Int} (h : RnAt w g n f) (he : ∀ j, j < n → f j = f' j) : RnAt w g n f' := ⟨fun j hj => by rw [← he j hj]; exact h.c j hj, h.z, h.l⟩
theorem RnAt.set {w : World} {g n : Nat} {f : Nat → Int} (h : RnAt w g n f) {j : Nat} (v : Int) (hj : j < n) : RnAt (w.setCell ⟨g, j, none⟩ (.int .i64 v)) g n (fun i => if i = j then v else f i) := by
  refine ⟨fun i hi => ?_, fun i hi => by rw [World.frozen?_setCell]; exact h.z i hi, by rw [World.size_setCell]; exact h.l⟩
  by_cases he : i = j
  · subst he
    rw [if_pos rfl]
    exact World.cell?_setCell_same _ _ _ (h.c i hi)
  · rw [if_neg he, World.cell?_setCell_other _ _ _ _ (by simp only [ne_eq, Addr.mk.injEq, true_and, and_true]; omega)]
    exact h.c i hi
theorem RnAt.later {w w1 : World} {g n : Nat} {f : Nat → Int} (h : RnAt w g n f) (hb : Below w.heap.size w w1) : RnAt w1 g n f := by
  refine ⟨fun j hj => (World.cell?_of_block (hb.block g h.l)).trans (h.c j hj), fun j hj => ?_, Nat.lt_of_lt_of_le h.l hb.size⟩
  have := h.z j hj
  unfold World.frozen? at this ⊢
  rw [hb.block g h.l]
  exact this
theorem RnAt.drew {w : World} {g n : Nat} {f : Nat → Int} (h : RnAt w g n f) : RnAt w.drew g n f := h.later (Below.refl _ _).drew
theorem RnAt.drewN {w : World} {g n : Nat} {f : Nat → Int} (h : RnAt w g n f) (k : Nat) : RnAt (w.drewN k) g n f := h.later (below_dN (Below.refl _ _) k)
theorem RnAt.grown {w w1 : World} {g g' n : Nat} {f : Nat → Int} (h : RnAt w g n f) (hg : w.grownBy w1 (some g')) (hne : g' ≠ g) : RnAt w1 g n f := by
  have he := hg.block g h.l (fun e => hne (Option.some.inj e).symm)
  refine ⟨fun j hj => (World.cell?_of_block he).trans (h.c j hj), fun j hj => ?_, Nat.lt_of_lt_of_le h.l hg.size⟩
  have := h.z j hj
  unfold World.frozen? at this ⊢
  rw [he]
  exact this
theorem int_bytes : (Tryd.prog.info? 3).map (fun i => (i.zero, i.size, i.bytes)) = some (some (.int .i64 0), 1, 8) := by kernel_rfl
theorem ints_made (n : Nat) (hn : n ≤ 1000000) (w : World) (k : IntKind) : (Instr.makeSlice 129 (.int k (n : Int)) (.int k (n : Int))).run Tryd.prog w = .ok (.slice (some ⟨w.heap.size, 0, none⟩) n n) (w.alloc (.cells (madeCells #[.int .i64 0] n) 3)) := by
  have hi := int_bytes
  cases hq : Tryd.prog.info? 3 with
  | none => rw [hq] at hi; cases hi
  | some i =>
    rw [hq] at hi
    simp only [Option.map_some, Option.some.injEq, Prod.mk.injEq] at hi
    have := run_make (P := Tryd.prog) w 129 3 i _ (by kernel_rfl) hq hi.1 k k (n : Int) (n : Int) (by omega) (Int.le_refl _) (by rw [hi.2.2]; omega) (by omega)
    rw [this]
    simp only [Int.toNat_natCast, hi.2.1, Nat.mul_one]
    rfl
theorem ints_new (n : Nat) (w : World) (t : TypeId) : RnAt (w.alloc (.cells (madeCells #[.int .i64 0] n) t)) w.heap.size n (fun _ => 0) := by
  have hh := heap_alloc_new w (.cells (madeCells #[.int .i64 0] n) t)
  refine ⟨fun j hj => ?_, fun j hj => frozen_of_row _ _ _ _ _ hh, by simp⟩
  rw [cell_of_row _ _ _ _ _ _ hh]
  unfold madeCells
  rw [Array.getElem?_map, Array.getElem?_range, if_pos hj]
  simp [Nat.mod_one]

/-- How many edits between the beginnings. -/
def pF (a b : List UInt8) (p q : Nat) : Int := (ed 1 (a.take p) (b.take q) : Int)
def pM (a b : List UInt8) (p q j : Nat) : Int := if j ≤ q then pF a b (p + 1) j else pF a b p j
theorem pF_bd {a b : List UInt8} (ha : a.length ≤ 300) (hb : b.length ≤ 300) (p q : Nat) : 0 ≤ pF a b p q ∧ pF a b p q ≤ 600 := by
  unfold pF
  have := ed_most 1 (a.take p) (b.take q)
  rw [List.length_take, List.length_take] at this
  omega
theorem pF_p0 (a b : List UInt8) {p : Nat} (hp : p ≤ a.length) : pF a b p 0 = p := by
  unfold pF; rw [List.take_zero, ed_nr, List.length_take]; omega
theorem pF_0q (a b : List UInt8) {q : Nat} (hq : q ≤ b.length) : pF a b 0 q = q := by
  unfold pF; rw [List.take_zero, ed_nl, List.length_take]; omega
theorem take_at (s : ByteArray) (k : Nat) (h : k < s.size) : s.data.toList.take (k + 1) = s.data.toList.take k ++ [s[k]] := by
  rw [List.take_succ_eq_append_getElem (by simpa using h)]
  rfl
theorem pF_step {a b : ByteArray} {p q : Nat} (hp : p < a.size) (hq : q < b.size) : pF a.data.toList b.data.toList (p + 1) (q + 1) = min (pF a.data.toList b.data.toList p q + if a[p] = b[q] then 0 else 1) (min (pF a.data.toList b.data.toList p (q + 1) + 1) (pF a.data.toList b.data.toList (p + 1) q + 1)) := by
  unfold pF
  rw [take_at a p hp, take_at b q hq, ed_last]
  split <;> omega
theorem RnAt.row {w : World} {g n : Nat} {a b : List UInt8} {p q : Nat} (h : RnAt w g n (pM a b p q)) (hq : q + 1 < n) {v : Int} (hv : v = pF a b (p + 1) (q + 1)) : RnAt (w.setCell ⟨g, q + 1, none⟩ (.int .i64 v)) g n (pM a b p (q + 1)) := by
  refine (h.set (j := q + 1) v hq).congr (fun j _ => ?_)
  unfold pM
  by_cases hj : j = q + 1
  · rw [if_pos hj, if_pos (by omega), hv, hj]
  · rw [if_neg hj]
    by_cases h1 : j ≤ q
    · rw [if_pos h1, if_pos (by omega)]
    · rw [if_neg h1, if_neg (by omega)]

set_option maxRecDepth 100000 in
set_option maxHeartbeats 4000000 in
theorem editsS_good (a b : ByteArray) (w : World) (h1 : good a.data.toList = true) (h2 : good b.data.toList = true) (ha : a.size ≤ 300) (hb : b.size ≤ 300) :
    Calls Tryd.prog 40 #[.string a, .string b] w fun e w' => e = .returned (.tuple #[.int .i64 (ed 1 a.data.toList b.data.toList : Int), .bool true]) ∧ Below w.heap.size w w' := by
  have H1 := l9Texts_any a b w (by omega) (by omega)
  rw [h1, h2] at H1
  replace H1 := hide H1
  clear h1 h2
  have ecast : ((b.size + 1 : Nat) : Int) = (b.size : Int) + 1 := by omega
  have hmk := ints_made (b.size + 1) (by omega) w .i64
  rw [ecast] at hmk
  have hwr : IntKind.i64.wrap ((b.size : Int) + 1) = (b.size : Int) + 1 := by rw [IntKind.wrap_i64]; omega
  go_enter Tryd.func40, Tryd.ntmps40
  go_wp2_with fail
  refine H1.out.mono ?_
  rintro e w' ⟨rfl, hw⟩
  replace hw := hw.symm
  subst hw
  go_wp2
  have r0 := ints_new (b.size + 1) w 3
  have hB0 : Below w.heap.size w (w.alloc (.cells (madeCells #[.int .i64 0] (b.size + 1)) 3)) := (Below.refl _ _).alloc (Nat.le_refl _) _
  generalize w.alloc (.cells (madeCells #[.int .i64 0] (b.size + 1)) 3) = W0 at *
  clear hmk H1
  go_loopw [22] (fun x wr => ∃ k : Nat, k ≤ b.size + 1 ∧ x = .int .i64 k ∧ Hid (RnAt wr w.heap.size (b.size + 1) (fun j => if j < k then (j : Int) else 0) ∧ Below w.heap.size w wr)) (fun x _ => b.size + 1 - (intOf x).toNat)
  case atStart => exact ⟨0, by omega, rfl, hide ⟨r0.congr (fun j _ => by simp), hB0⟩⟩
  case round =>
    obtain ⟨k, hk, rfl, HR⟩ := hrel
    by_cases hlt : k < b.size + 1
    · have c1 := HR.out.1.c k hlt
      have f1 := HR.out.1.z k hlt
      rw [if_neg (by omega)] at c1
      go_wp2
      refine ⟨⟨k + 1, by omega, by go_num, hide ⟨(HR.out.1.set (j := k) (k : Int) hlt).congr (fun j _ => ?_), HR.out.2.setCell (p := ⟨w.heap.size, k, none⟩) (Nat.le_refl _) _⟩⟩, by simp [intOf]; omega⟩
      by_cases hj : j = k
      · rw [if_pos hj, if_pos (by omega), hj]
      · rw [if_neg hj]
        by_cases hjk : j < k
        · rw [if_pos hjk, if_pos (by omega)]
        · rw [if_neg hjk, if_neg (by omega)]
    · have HQ : Hid (RnAt wr w.heap.size (b.size + 1) (fun j => pF a.data.toList b.data.toList 0 j) ∧ Below w.heap.size w wr) := hide ⟨HR.out.1.congr (fun j hj => by
        rw [if_pos (by omega), pF_0q _ _ (by simpa using (by omega : j ≤ b.size))]), HR.out.2⟩
      clear HR r0 hB0
      go_wp2
      go_loopw [8] (fun x w1 => ∃ p : Nat, p ≤ a.size ∧ x = .int .i64 ((p : Int) + 1) ∧ Hid (RnAt w1 w.heap.size (b.size + 1) (fun j => pF a.data.toList b.data.toList p j) ∧ Below w.heap.size w w1)) (fun x _ => a.size + 1 - (intOf x).toNat)
      case atStart => exact ⟨0, by omega, rfl, HQ⟩
      case round =>
        obtain ⟨p, hp, rfl, HP⟩ := hrel
        clear HQ
        by_cases hlp : p < a.size
        · have c0 := HP.out.1.c 0 (by omega)
          have f0 := HP.out.1.z 0 (by omega)
          rw [pF_p0 _ _ (by simpa using hp)] at c0
          have HS : Hid (RnAt (wr.setCell ⟨w.heap.size, 0, none⟩ (.int .i64 ((p : Int) + 1))) w.heap.size (b.size + 1) (pM a.data.toList b.data.toList p 0) ∧ Below w.heap.size w (wr.setCell ⟨w.heap.size, 0, none⟩ (.int .i64 ((p : Int) + 1)))) := hide ⟨(HP.out.1.set (j := 0) ((p : Int) + 1) (by omega)).congr (fun j _ => by
            unfold pM
            by_cases hj : j = 0
            · rw [if_pos hj, if_pos (by omega), hj, pF_p0 _ _ (by simpa using (by omega : p + 1 ≤ a.size))]; omega
            · rw [if_neg hj, if_neg (by omega)]), HP.out.2.setCell (p := ⟨w.heap.size, 0, none⟩) (Nat.le_refl _) _⟩
          clear HP
          go_wp2
          generalize wr.setCell ⟨w.heap.size, 0, none⟩ (.int .i64 ((p : Int) + 1)) = W1 at HS ⊢
          clear c0 f0
          go_loopw [9, 10] (fun l x w1 => ∃ q : Nat, q ≤ b.size ∧ x = .int .i64 ((q : Int) + 1) ∧ (∃ v, l = .int .i64 v ∧ Hid (v = pF a.data.toList b.data.toList p q)) ∧ Hid (RnAt w1 w.heap.size (b.size + 1) (pM a.data.toList b.data.toList p q) ∧ Below w.heap.size w w1)) (fun _ x _ => b.size + 1 - (intOf x).toNat)
          case atStart => exact ⟨0, by omega, rfl, ⟨_, rfl, hide (by rw [pF_p0 _ _ (by simpa using hp)])⟩, HS⟩
          case round =>
            obtain ⟨q, hq, rfl, ⟨v, rfl, HV⟩, HR⟩ := hrel
            clear HS
            by_cases hlq : q < b.size
            · have c0 := HR.out.1.c q (by omega)
              have c1 := HR.out.1.c (q + 1) (by omega)
              have f1 := HR.out.1.z (q + 1) (by omega)
              have e0 : pM a.data.toList b.data.toList p q q = pF a.data.toList b.data.toList (p + 1) q := by unfold pM; rw [if_pos (Nat.le_refl _)]
              have e1 : pM a.data.toList b.data.toList p q (q + 1) = pF a.data.toList b.data.toList p (q + 1) := by unfold pM; rw [if_neg (by omega)]
              rw [e0] at c0
              rw [e1] at c1
              have HN := pF_step hlp hlq
              have b0 := pF_bd (a := a.data.toList) (b := b.data.toList) (by simpa using ha) (by simpa using hb) (p + 1) q
              have b1 := pF_bd (a := a.data.toList) (b := b.data.toList) (by simpa using ha) (by simpa using hb) p (q + 1)
              have b2 := pF_bd (a := a.data.toList) (b := b.data.toList) (by simpa using ha) (by simpa using hb) p q
              rw [← HV.out] at HN b2
              obtain ⟨y0, hy0⟩ : ∃ y, pF a.data.toList b.data.toList (p + 1) q = y := ⟨_, rfl⟩
              obtain ⟨y1, hy1⟩ : ∃ y, pF a.data.toList b.data.toList p (q + 1) = y := ⟨_, rfl⟩
              rw [hy0] at c0 b0 HN
              rw [hy1] at c1 b1 HN
              have HY := hide hy1
              clear hy0 hy1 e0 e1 HV
              have k1 : IntKind.i64.wrap ((p : Int) + 1 - 1) = (p : Int) := by rw [IntKind.wrap_i64]; omega
              have k2 : IntKind.i64.wrap ((q : Int) + 1 - 1) = (q : Int) := by rw [IntKind.wrap_i64]; omega
              by_cases he : a[p] = b[q]
              · have hq1 : ((a[p].toNat : Int) != (b[q].toNat : Int)) = false := by rw [bne, u8_beq he]; rfl
                rw [if_pos he] at HN
                have HN' := hide HN
                clear HN he
                go_wp2
                go_region
                go_wp2
                all_goals
                  refine ⟨⟨q + 1, by omega, by go_num, ⟨_, rfl, hide HY.out.symm⟩, hide ⟨(HR.out.1.row (by omega) (by rw [HN'.out]; omega)).drew, (HR.out.2.setCell (p := ⟨w.heap.size, q + 1, none⟩) (Nat.le_refl _) _).drew⟩⟩, by simp [intOf]; omega⟩
              · have hq1 : ((a[p].toNat : Int) != (b[q].toNat : Int)) = true := by rw [bne, u8_bne he]; rfl
                rw [if_neg he] at HN
                have HN' := hide HN
                clear HN he
                go_wp2
                go_region
                go_wp2
                all_goals
                  refine ⟨⟨q + 1, by omega, by go_num, ⟨_, rfl, hide HY.out.symm⟩, hide ⟨(HR.out.1.row (by omega) (by rw [HN'.out]; omega)).drew, (HR.out.2.setCell (p := ⟨w.heap.size, q + 1, none⟩) (Nat.le_refl _) _).drew⟩⟩, by simp [intOf]; omega⟩
            · have HS : Hid (RnAt wr w.heap.size (b.size + 1) (fun j => pF a.data.toList b.data.toList (p + 1) j) ∧ Below w.heap.size w wr) := hide ⟨HR.out.1.congr (fun j hj => by unfold pM; rw [if_pos (by omega)]), HR.out.2⟩
              clear HR HV
              go_wp2
              refine ⟨⟨p + 1, by omega, by go_num, HS⟩, by simp [intOf]; omega⟩
        · have c1 := HP.out.1.c b.size (by omega)
          have HE : Hid (pF a.data.toList b.data.toList p b.size = (ed 1 a.data.toList b.data.toList : Int)) := hide (by
            unfold pF
            rw [List.take_of_length_le (by simp; omega), List.take_of_length_le (by simp)])
          obtain ⟨y, hy⟩ : ∃ y, pF a.data.toList b.data.toList p b.size = y := ⟨_, rfl⟩
          rw [hy] at c1 HE
          clear hy
          go_wp2
          go_ret2
          exact ⟨by rw [← HE.out]; rfl, HP.out.2⟩

set_option maxHeartbeats 2000000 in
theorem editsS_any (a b : ByteArray) (w : World) (ha : a.size ≤ 1048576) (hb : b.size ≤ 1048576) :
    Calls Tryd.prog 40 #[.string a, .string b] w fun e w' => e = .returned (.tuple #[.int .i64 (edA 1 a.data.toList b.data.toList), .bool (good a.data.toList && good b.data.toList)]) ∧ Below w.heap.size w w' := by
  unfold edA
  by_cases h : (good a.data.toList && good b.data.toList) = true
  · rw [h, if_pos rfl]
    rw [Bool.and_eq_true] at h
    exact editsS_good a b w h.1 h.2 (good_len' h.1) (good_len' h.2)
  · rw [Bool.not_eq_true] at h
    have H1 := l9Texts_any a b w ha hb
    rw [h] at H1 ⊢
    replace H1 := hide H1
    clear h
    go_enter Tryd.func40, Tryd.ntmps40
    go_wp2_with fail
    refine H1.out.mono ?_
    rintro e w' ⟨rfl, hw⟩
    replace hw := hw.symm
    subst hw
    go_wp2
    go_ret2
    exact ⟨rfl, Below.refl _ _⟩
end Go.Proofs.YtojlnnlcbpjdlaaDoor
