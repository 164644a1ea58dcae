/- The program's functions over ropes, on: IsBalanced, SplitRope, ByteAt. -/
import Derived.Test.YtgacajnljplmiabDoorRopc
set_option linter.unusedVariables false
namespace Go.Proofs.YtgacajnljplmiabDoor
open Go.RowKit
open Doc1

/-- The numbers of Fibonacci from the second on. -/
def fb : Nat → Nat
  | 0 => 1
  | 1 => 2
  | n + 2 => fb n + fb (n + 1)

theorem fb_pos : ∀ n, 0 < fb n
  | 0 => by decide
  | 1 => by decide
  | n + 2 => by have := fb_pos n; simp only [fb]; omega

theorem fb_up (n : Nat) : fb n < fb (n + 1) ∧ fb (n + 1) ≤ 2 * fb n := by
  induction n with
  | zero => decide
  | succ n ih => have := fb_pos n; simp only [fb]; omega

theorem fb_mono {n m : Nat} (h : n ≤ m) : fb n ≤ fb m := by
  induction m with
  | zero => rw [Nat.le_zero.1 h]; exact Nat.le_refl _
  | succ m ih =>
    by_cases c : n ≤ m
    · have := ih c; have := fb_up m; omega
    · rw [show n = m + 1 by omega]; exact Nat.le_refl _

def lng (size deep : Nat) : Bool := decide (fb deep ≤ size)

set_option maxRecDepth 100000 in
set_option maxHeartbeats 4000000 in
theorem isLongEnough_any (size deep : Nat) (w : World) (hs : size ≤ 100000) (hd : deep ≤ 100000) :
    Calls Tryd.prog 106 #[.int .i64 (size : Int), .int .i64 (deep : Int)] w fun e w' => e = .returned (.bool (lng size deep)) ∧ w' = w := by
  unfold lng
  go_enter Tryd.func106, Tryd.ntmps106
  go_wp2
  go_loop [1, 5, 6] (fun vd vl vn => ∃ (k : Nat), k ≤ deep ∧ vd = .int .i64 ((deep - k : Nat) : Int) ∧ vl = .int .i64 (fb k : Int) ∧ vn = .int .i64 (fb (k + 1) : Int) ∧ (k = 0 ∨ fb (k - 1) ≤ size)) (fun vd _ _ => (intOf vd).toNat)
  case atStart => exact ⟨0, by omega, rfl, rfl, rfl, .inl rfl⟩
  case round =>
    obtain ⟨k, hk, rfl, rfl, rfl, hp⟩ := hrel
    have hb : fb k ≤ 200001 := by
      rcases hp with rfl | c
      · decide
      · by_cases h0 : k = 0
        · subst h0; decide
        · have := (fb_up (k - 1)).2; rw [show k - 1 + 1 = k by omega] at this; omega
    have hb2 := (fb_up k).2
    have hb3 := (fb_up k).1
    have HF : Hid (fb k + fb (k + 1) = fb (k + 1 + 1)) := hide rfl
    obtain ⟨x, hx⟩ : ∃ x, fb k = x := ⟨_, rfl⟩
    obtain ⟨y, hy⟩ : ∃ y, fb (k + 1) = y := ⟨_, rfl⟩
    obtain ⟨d, hd2⟩ : ∃ d, deep - k = d := ⟨_, rfl⟩
    rw [hx] at hb hb2 hb3 HF ⊢
    rw [hy] at hb2 hb3 HF ⊢
    rw [hd2]
    have hw : IntKind.i64.wrap ((x : Int) + (y : Int)) = (x : Int) + (y : Int) := by rw [IntKind.wrap_i64]; omega
    by_cases h1 : 0 < d
    · have hwd : IntKind.i64.wrap ((d : Int) - 1) = (d : Int) - 1 := by have := hd2; rw [IntKind.wrap_i64]; omega
      have e1 : decide ((0 : Int) < (d : Int)) = true := by rw [decide_eq_true_iff]; omega
      by_cases h2 : x ≤ size
      · have e2 : decide ((x : Int) ≤ (size : Int)) = true := by rw [decide_eq_true_iff]; omega
        have HX := hide (And.intro hx (And.intro hy hd2))
        clear hx hy hd2
        go_wp2
        go_round
        case rel =>
          obtain ⟨hx, hy, hd2⟩ := HX.out
          exact ⟨k + 1, by omega, by congr 1; omega, by rw [hy], by rw [← HF.out]; congr 1, .inr (by rw [Nat.add_sub_cancel, hx]; exact h2)⟩
        case measure => simp [intOf]; omega
      · have e2 : decide ((x : Int) ≤ (size : Int)) = false := by rw [decide_eq_false_iff_not]; omega
        have HE : Hid (decide (fb deep ≤ size) = false) := hide (by
          have := fb_mono (show k ≤ deep by omega)
          rw [decide_eq_false_iff_not]; omega)
        clear hx hy hd2
        go_wp2
        go_ret
        exact ⟨by rw [HE.out] <;> rfl, rfl⟩
    · have e1 : decide ((0 : Int) < (d : Int)) = false := by rw [decide_eq_false_iff_not]; omega
      have HE : Hid (decide (x ≤ size) = decide (fb deep ≤ size)) := hide (by
        rw [← hx, show k = deep by omega])
      clear hx hy hd2
      go_wp2
      go_ret
      exact ⟨by rw [← HE.out] <;> rfl, rfl⟩

/-- Boughs of a good rope: their numbers are small. -/
theorem pd_small (t : Lm) : ∀ (o : Nat), ∀ b ∈ t.pd o, ∃ (z d : Nat), b.size = (z : Int) ∧ b.deep = (d : Int) ∧ z ≤ t.sz ∧ d ≤ t.dp := by
  induction t with
  | pc s => intro o b hb; simp only [Lm.pd, List.mem_singleton] at hb; subst hb; exact ⟨s.size, 0, rfl, rfl, Nat.le_refl _, Nat.le_refl _⟩
  | jn a b iha ihb =>
    intro o x hx
    simp only [Lm.pd, List.mem_append, List.mem_singleton] at hx
    simp only [Lm.sz, Lm.dp]
    rcases hx with h | h | h
    · obtain ⟨z, d, h1, h2, h3, h4⟩ := iha _ _ h
      exact ⟨z, d, h1, h2, by omega, by omega⟩
    · obtain ⟨z, d, h1, h2, h3, h4⟩ := ihb _ _ h
      exact ⟨z, d, h1, h2, by omega, by omega⟩
    · subst h
      exact ⟨a.sz + b.sz, max a.dp b.dp + 1, rfl, rfl, Nat.le_refl _, Nat.le_refl _⟩

theorem rt_small {l : List Bg} (h : rtB l = true) : ∀ i (hi : i < l.length), ∃ (z d : Nat), l[i].size = (z : Int) ∧ l[i].deep = (d : Int) ∧ z ≤ 300 ∧ d ≤ 200 := by
  intro i hi
  unfold rtB at h
  obtain ⟨o, ho⟩ := Option.isSome_iff_exists.1 h
  obtain ⟨e, hg, hn, hz⟩ := RO_bo (dc_ro ho)
  cases o with
  | none => rw [e] at hi; simp [bo] at hi
  | some t =>
    obtain ⟨b, hb⟩ : ∃ b, l[i] = b := ⟨_, rfl⟩
    have hm : b ∈ l := hb ▸ List.getElem_mem hi
    rw [hb]
    rw [e] at hm
    obtain ⟨z, d, h1, h2, h3, h4⟩ := pd_small t 0 _ hm
    have := Lm.dp_lt t
    simp only [nbO, szO] at hn hz
    exact ⟨z, d, h1, h2, by omega, by omega⟩

def lngB (b : Bg) : Bool := lng b.size.toNat b.deep.toNat

noncomputable def blB (l : List Bg) : Bool := rtB l && l.all lngB

set_option maxRecDepth 100000 in
set_option maxHeartbeats 4000000 in
theorem isBalancedI {w : World} {a : Option Addr} {cap : Nat} {l : List Bg} (h : RIn w a cap l) (hT : Tab w) :
    Calls Tryd.prog 48 #[.agg #[.slice a l.length cap]] w fun e w' => e = .returned (.tuple #[.bool (blB l), .bool (rtB l)]) ∧ Below w.heap.size w w' := by
  obtain ⟨w1, hw1⟩ : ∃ w1, w1 = w.alloc (.cells #[.slice a l.length cap] 41) := ⟨_, rfl⟩
  have hb1 : Below w.heap.size w w1 := by rw [hw1]; exact (Below.refl _ _).alloc (Nat.le_refl _) _
  have hc1 : CellR w1 w.heap.size (.slice a l.length cap) := by rw [hw1]; exact CellR.new w _
  have G := hide (goodRopeI (h.later hb1) (hT.below hb1))
  have HI := hide h
  have HB1 := hide hb1
  have HC1 := hide hc1
  have hll := h.len
  have hcm := h.inn.mx
  have hcl := h.inn.le
  unfold maxLen at hcm
  cases hr : rtB l with
  | false =>
    have e : blB l = false := by unfold blB; rw [hr]; rfl
    rw [e]
    rw [hr] at G
    clear e hr h hT hb1 hc1
    go_enter Tryd.func48, Tryd.ntmps48
    go_wp2_with fail
    rw [← hw1]
    clear hw1
    refine G.out.mono ?_
    rintro e w2 ⟨rfl, hb2⟩
    go_wp2
    go_ret2
    exact ⟨rfl, HB1.out.trans (hb2.mono HB1.out.size)⟩
  | true =>
    have e : blB l = l.all lngB := by unfold blB; rw [hr]; rfl
    rw [e]
    have HS := hide (rt_small hr)
    rw [hr] at G
    clear e hr h hT hb1 hc1
    go_enter Tryd.func48, Tryd.ntmps48
    go_wp2_with fail
    rw [← hw1]
    clear hw1
    refine G.out.mono ?_
    rintro e w2 ⟨rfl, hb2⟩
    have cc := (HC1.out.later hb2).cell
    have HB2 : Hid (Below w.heap.size w w2) := hide (HB1.out.trans (hb2.mono HB1.out.size))
    have HI2 := hide (HI.out.later HB2.out)
    have hs2 := HB2.out.size
    clear hb2 HI HC1 HB1
    go_wp2
    clear cc
    go_loopw [12] (fun vi wr => ∃ (k : Nat), k ≤ l.length ∧ vi = .int .i64 (k : Int) ∧ Hid ((l.take k).all lngB = true ∧ Below w2.heap.size w2 wr)) (fun vi _ => l.length - (intOf vi).toNat)
    case atStart => exact ⟨0, by omega, rfl, hide ⟨rfl, Below.refl _ _⟩⟩
    case round =>
      obtain ⟨k, hk, rfl, HR⟩ := hrel
      by_cases hlt : k < l.length
      · have hne : l ≠ [] := fun c => by rw [c] at hlt; simp at hlt
        obtain ⟨g, rfl, hg, hcs⟩ := (HI2.out.inn.later HR.out.2).ad hne
        obtain ⟨b0, b1, b2, b3, b4⟩ := hcs.bgat k hlt
        obtain ⟨z, d, e1, e2, hz, hd⟩ := HS.out k hlt
        have HT : Hid ((l.take (k + 1)).all lngB = lng z d) := hide (by
          rw [List.take_succ_eq_append_getElem hlt, List.all_append, HR.out.1]
          simp only [List.all_cons, List.all_nil, Bool.and_true, Bool.true_and]
          unfold lngB
          rw [e1, e2]
          rfl)
        rw [e1] at b3
        rw [e2] at b4
        have LE := hide (fun w => isLongEnough_any z d w (by omega) (by omega))
        have HF : Hid (lng z d = false → l.all lngB = false) := hide (fun c => by
          have h1 := HT.out
          rw [c] at h1
          have h2 : l.all lngB = ((l.take (k + 1)).all lngB && (l.drop (k + 1)).all lngB) := by rw [← List.all_append, List.take_append_drop]
          rw [h2, h1]; rfl)
        have HBb : Hid (Below w2.heap.size w2 (wr.alloc (.cells #[.int .i64 l[k].left, .int .i64 l[k].right, .string l[k].text, .int .i64 (z : Int), .int .i64 (d : Int)] 65))) := hide (HR.out.2.alloc HR.out.2.size _)
        obtain ⟨q, hq⟩ : ∃ q, lng z d = q := ⟨_, rfl⟩
        rw [hq] at HT LE HF
        clear hcs hq e1 e2
        go_wp2_with fail
        refine (LE.out _).mono ?_
        rintro e w3 ⟨rfl, hw⟩
        replace hw := hw.symm
        subst hw
        cases q with
        | true =>
          go_wp2
          exact ⟨⟨k + 1, by omega, by go_num, hide ⟨HT.out, HBb.out⟩⟩, by simp [intOf]; omega⟩
        | false =>
          go_wp2
          go_ret2
          exact ⟨by rw [HF.out (by first | rfl | trivial)] <;> rfl, HB2.out.trans (HBb.out.mono hs2)⟩
      · have HE : Hid (l.all lngB = true) := hide (by have := HR.out.1; rw [List.take_of_length_le (by omega)] at this; exact this)
        go_wp2
        go_ret2
        exact ⟨by rw [HE.out] <;> rfl, HB2.out.trans (HR.out.2.mono hs2)⟩
end Go.Proofs.YtgacajnljplmiabDoor
