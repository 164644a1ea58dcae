/- Keeping all, and then a change: that change. The plain mathematics of FnNormal: a normal change is normal, does the same, and is what keeping all and the change come to. The drawing of a splice. -/
import Derived.Test.YtojlnnlcbpjdlaaDoorCompM
import Derived.Test.YtojlnnlcbpjdlaaDoorInv1
import Derived.Test.YtojlnnlcbpjdlaaDoorComp4
import Derived.Test.YtojlnnlcbpjdlaaDoorSpWB
import Derived.Test.YtojlnnlcbpjdlaaDoorDrwN
namespace Go.Proofs.YtojlnnlcbpjdlaaDoor.Doc1

theorem cmp_all : ∀ ys : List St, (∀ y ∈ ys, sk y) → cmpS (sK (ctk ys)) ys = some ys
  | [], _ => by simp [ctk, sK, cmpS_nil]
  | y :: ys, h => by
    have ih := cmp_all ys (fun z hz => h z (List.mem_cons_of_mem _ hz))
    by_cases hy : y.k = 2
    · have e : ctk (y :: ys) = ctk ys := by simp [ctk, hy]
      rw [e]
      cases hn : ctk ys with
      | zero =>
        rw [hn] at ih
        have e0 : sK 0 = [] := rfl
        rw [e0] at ih ⊢
        rw [cmpS_y, if_pos hy, ih]; rfl
      | succ n =>
        rw [hn] at ih
        have e1 : sK (n + 1) = ⟨1, 0⟩ :: sK n := rfl
        rw [e1] at ih ⊢
        rw [cmpS_xy, if_neg (by decide), if_pos hy, ih]; rfl
    · have e : ctk (y :: ys) = ctk ys + 1 := by simp [ctk, hy]
      have e1 : sK (ctk ys + 1) = ⟨1, 0⟩ :: sK (ctk ys) := rfl
      rw [e, e1, cmpS_xy, if_neg (by decide), if_neg hy, if_pos rfl, ih]; rfl
end Go.Proofs.YtojlnnlcbpjdlaaDoor.Doc1

namespace Go.Proofs.YtojlnnlcbpjdlaaDoor
open Doc1

theorem swE_gath {a b : List St} (h : SwE a b) (G : Gs) : gath G a = gath G b := by
  induction h with
  | refl => rfl
  | swap a b hp hd => exact eqv_at hp hd _ _ G
  | trans _ _ i1 i2 => exact i1.trans i2
theorem norm_norm {l : List Pt} (h : goodO l = true) : normL (normL l) = normL l := by
  have hp := goodO_pk h
  have hx := goodO_pk (norm_goodO h).1
  rw [norm_gath _ hx, swE_gath (norm_sw hp), ← norm_gath _ hp]
theorem nor_nor {l : List Pt} (h : goodO l = true) : norO (norO l) = norO l ∧ goodO (norO l) = true := by
  have e : norO l = normL l := by unfold norO; rw [if_pos h]
  have hg := (norm_goodO h).1
  rw [e]
  refine ⟨?_, hg⟩
  unfold norO
  rw [if_pos hg, norm_norm h]
theorem aplO_norm {l : List Pt} (h : goodO l = true) (s : ByteArray) : aplO (norO l) s = aplO l s := by
  have e : norO l = normL l := by unfold norO; rw [if_pos h]
  obtain ⟨hg, ht, hm⟩ := norm_goodO h
  rw [e]
  by_cases hs : good s.data.toList = true
  · obtain ⟨a1, a2, a3⟩ := aplO_steps h hs
    obtain ⟨b1, b2, b3⟩ := aplO_steps hg hs
    have hap := ap_norm (goodO_pk h) (s.data.toList, [])
    by_cases hsz : (s.size : Int) = tkL l
    · cases hx : apTL (stL l) (s.data.toList, []) with
      | none => rw [a2 hx, b2 (hap.trans hx)]
      | some y =>
        obtain ⟨r, o⟩ := y
        have hp := goodO_pk h
        obtain ⟨e1, e2, -⟩ := apTL_left _ _ _ _ (fun q hq => (stL_so hp q hq).1) hx
        have hc := (stL_sums l hp).1
        have e3 := sz_list s
        have : r = [] := by
          simp only at e1
          rw [e1]
          apply List.drop_eq_nil_of_le
          omega
        subst this
        rw [a1 o hsz hx, b1 o (by rw [ht]; exact hsz) (hap.trans hx)]
    · rw [a3 hsz, b3 (by rw [ht]; exact hsz)]
  · unfold aplO
    rw [if_neg (fun c => hs c.2.1), if_neg (fun c => hs c.2.1)]
theorem stL_keep {n : Nat} (h : n ≤ 300) : stL (keepL (n : Int)) = sK n := by
  unfold keepL
  by_cases h0 : 1 ≤ (n : Int) ∧ (n : Int) ≤ 300
  · rw [if_pos h0, stL_one]; exact stp_kp n
  · rw [if_neg h0]
    obtain rfl : n = 0 := by omega
    rfl
theorem cmpO_keep {l : List Pt} (h : goodO l = true) : cmpO (keepL (tkL l)) l = (normL l, true) := by
  have hp := goodO_pk h
  obtain ⟨-, ht, -⟩ := goodO_le h
  have hc := (stL_sums l hp).1
  have e : tkL l = ((ctk (stL l) : Nat) : Int) := by omega
  have hn : ctk (stL l) ≤ 300 := by omega
  have hc2 : cmpS (stL (keepL (tkL l))) (stL l) = some (stL l) := by
    rw [e, stL_keep hn]
    exact cmp_all _ (fun q hq => (stL_so hp q hq).1)
  rw [(cmpO_eq (by rw [e]; exact keepL_good hn) h).1 _ hc2, ← norm_gath _ hp, (norm_goodO h).1]
  rfl
theorem stp_nth {p : Pt} (h : nth p) : stp p = [] := by
  obtain ⟨h1, h2, h3⟩ := h
  simp [stp, h1, h2, h3]
theorem stL_filter : ∀ l : List Pt, stL (l.filter (fun p => decide (¬ nth p))) = stL l
  | [] => rfl
  | p :: l => by
    by_cases h : nth p
    · rw [List.filter_cons_of_neg (by simp [h]), stL_cons, stp_nth h, stL_filter l]; rfl
    · rw [List.filter_cons_of_pos (by simp [h]), stL_cons, stL_cons, stL_filter l]
theorem spL_ap {s put : ByteArray} {m n : Nat} (hmn : m ≤ n) (hns : n ≤ s.size) : apTL (stL (spL s put m n)) (s.data.toList, []) = some ([], s.data.toList.take m ++ put.data.toList ++ s.data.toList.drop n) := by
  have hl := sz_list s
  have e : stL (spL s put m n) = List.replicate m ⟨1, 0⟩ ++ (put.data.toList.map (fun c => (⟨2, c⟩ : St)) ++ ((s.extract m n).data.toList.map (fun c => (⟨3, c⟩ : St)) ++ List.replicate (s.size - n) ⟨1, 0⟩)) := by
    simp [spL, stL, stp]
  have hx : (s.extract m n).data.toList = (s.data.toList.take n).drop m := by simp [ByteArray.data_extract, Array.toList_extract, List.extract_eq_take_drop, List.drop_take]
  have hxl : (s.extract m n).data.toList.length = n - m := by rw [hx, List.length_drop, List.length_take]; omega
  rw [e, apTL_app, apTL_keep, if_neg (by omega), Option.bind_some, apTL_app, apTL_put, Option.bind_some, apTL_app, apTL_drop, hxl, if_pos (by rw [hx, List.drop_take]), Option.bind_some, apTL_keep, List.drop_drop, if_neg (by rw [List.length_drop]; omega)]
  have e1 : m + (n - m) = n := by omega
  rw [e1, List.nil_append, List.drop_drop, List.drop_eq_nil_of_le (by omega), List.take_of_length_le (l := s.data.toList.drop n) (by rw [List.length_drop]; omega)]
/-- What is spliced is just that. -/
theorem spl_apply {s put : ByteArray} {m n : Nat} (h : (spO s put m n).2 = true) : aplO (spO s put m n).1 s = (ba (s.data.toList.take m ++ put.data.toList ++ s.data.toList.drop n), true) := by
  unfold spO at h ⊢
  by_cases hc : spOk s put m n ∧ goodO (spT s put (m : Int).toNat (n : Int).toNat) = true
  · rw [if_pos hc]
    obtain ⟨⟨hs, hp, -, hmn, hns⟩, hg⟩ := hc
    simp only [Int.toNat_natCast] at hg ⊢
    have hmn' : m ≤ n := by omega
    have hns' : n ≤ s.size := by omega
    obtain ⟨a1, -, a3⟩ := aplO_steps hg hs
    have hap : apTL (stL (spT s put m n)) (s.data.toList, []) = some ([], s.data.toList.take m ++ put.data.toList ++ s.data.toList.drop n) := by
      unfold spT
      by_cases he : s.extract m n = put
      · rw [if_pos he]
        have hs3 := good_len hs
        have hl := sz_list s
        rw [← sz_list] at hs3
        have hx : put.data.toList = (s.data.toList.take n).drop m := by rw [← he]; simp [ByteArray.data_extract, Array.toList_extract, List.extract_eq_take_drop, List.drop_take]
        rw [stL_keep hs3, show sK s.size = List.replicate s.size ⟨1, 0⟩ from rfl, apTL_keep, if_neg (by omega), List.nil_append, List.take_of_length_le (by omega), List.drop_eq_nil_of_le (by omega)]
        have e : s.data.toList.take m ++ (s.data.toList.take n).drop m = s.data.toList.take n := by
          have := List.take_append_drop m (s.data.toList.take n)
          rw [List.take_take, Nat.min_eq_left hmn'] at this
          exact this
        rw [hx, e, List.take_append_drop]
      · rw [if_neg he, ap_norm (spN_pk hs hp hmn' hns')]
        unfold spN
        rw [stL_filter, spL_ap hmn' hns']
    refine a1 _ ?_ hap
    have hq := goodO_pk hg
    obtain ⟨e1, e2, -⟩ := apTL_left _ _ _ _ (fun q hq' => (stL_so hq q hq').1) hap
    have hc := (stL_sums _ hq).1
    have hl := sz_list s
    have : s.data.toList.length ≤ ctk (stL (spT s put m n)) := by
      simp only at e1
      exact List.drop_eq_nil_iff.1 e1.symm
    omega
  · rw [if_neg hc] at h; cases h
end Go.Proofs.YtojlnnlcbpjdlaaDoor

namespace Go.Proofs.YtojlnnlcbpjdlaaDoor
open Go.RowKit
open Doc1

set_option maxRecDepth 100000 in
set_option maxHeartbeats 2000000 in
theorem drawSpliceOp_any (C : Value) (w : World) (hco : CodeAt w.heap.size C w) :
    Calls Tryd.prog 21 #[C] w fun e w' => ∃ (s put : ByteArray) (m n : Nat), e = .returned (.tuple #[.string s, .int .i64 (m : Int), .int .i64 (n : Int), .string put]) ∧ s.size ≤ 300 ∧ put.size ≤ 300 ∧ m ≤ s.size ∧ m ≤ n ∧ n ≤ s.size + 1 ∧ Below w.heap.size w w' := by
  have hcur := cur_new w C
  have hco1 := hco.grown (World.grownBy_alloc w (.cells #[C, .int .i64 0, .int .u64 0] 75) (some w.heap.size))
  obtain ⟨a, len, cap, rfl⟩ := hco.shape
  clear hco
  go_enter Tryd.func21, Tryd.ntmps21
  go_wp2_with fail
  refine (plainText_any _ _ _ _ hcur hco1 (by omega)).mono ?_
  rintro e w1 ⟨s, rfl, hs, hc1, hg1⟩
  have hco2 := hco1.grown hg1
  clear hcur hco1
  go_wp2_with fail
  refine (pick_any _ _ _ ((s.size : Int) + 1) w1 hc1 hco2 (by omega)).mono ?_
  rintro e w2 ⟨y, rfl, hy0, hy1, hy2, hc2, hg2⟩
  have hco3 := hco2.grown hg2
  have hg12 := hg1.trans hg2
  clear hc1 hco2 hg1 hg2
  have hym := hy2 (by omega)
  obtain ⟨m, rfl⟩ : ∃ m : Nat, y = m := ⟨y.toNat, by omega⟩
  clear hy0 hy1 hy2
  have PK := hide (pick_any _ _ _ ((s.size : Int) - (m : Int) + 2) w2 hc2 hco3 (by omega))
  go_wp2_with fail
  refine PK.out.mono ?_
  rintro e w3 ⟨y, rfl, hy0, hy1, hy2, hc3, hg3⟩
  have hyn := hy2 (by omega)
  have hco4 := hco3.grown hg3
  have hg13 := hg12.trans hg3
  obtain ⟨k, rfl⟩ : ∃ k : Nat, y = k := ⟨y.toNat, by omega⟩
  clear hy0 hy1 hy2 hc2 hco3 hg12 hg3 PK
  go_wp2_with fail
  refine (plainText_any _ _ _ _ hc3 hco4 (by omega)).mono ?_
  rintro e w4 ⟨put, rfl, hp, hc4, hg4⟩
  have hco5 := hco4.grown hg4
  have hg14 := hg13.trans hg4
  clear hc3 hco4 hg13 hg4
  go_wp2_with fail
  refine (one_any _ _ _ 4 w4 hc4 hco5 (by omega)).mono ?_
  rintro e w5 ⟨b, rfl, hc5, hg5⟩
  have hb5 := hide (below_of_grown (hg14.trans hg5))
  clear hc4 hco5 hg14 hg5 hc5
  have m0 : (0 : Int) ≤ (m : Int) := by omega
  have mk : (m : Int) ≤ (m : Int) + (k : Int) := by omega
  have ek : (m : Int) + (k : Int) = ((m + k : Nat) : Int) := by omega
  have ht1 : ((m : Int) + (k : Int)).toNat = m + k := by omega
  cases b with
  | true =>
    by_cases hb : (m : Int) + (k : Int) ≤ (s.size : Int)
    · have d1 : decide ((m : Int) + (k : Int) ≤ (s.size : Int)) = true := decide_eq_true hb
      have HE := hide ek
      clear ek
      go_wp2
      refine bodyPost_ret (v := .tuple #[.string s, .int .i64 (m : Int), .int .i64 ((m : Int) + (k : Int)), .string (s.extract m (m + k))]) (by simp [results, Tryd.results21, go_sem]) rfl ?_
      refine ⟨s, s.extract m (m + k), m, m + k, ?_, hs, ?_, by omega, by omega, by omega, hb5.out⟩
      · rw [← HE.out]
      · rw [ByteArray.size_extract]; omega
    · have d1 : decide ((m : Int) + (k : Int) ≤ (s.size : Int)) = false := decide_eq_false hb
      have HE := hide ek
      clear ek
      go_wp2
      refine bodyPost_ret (v := .tuple #[.string s, .int .i64 (m : Int), .int .i64 ((m : Int) + (k : Int)), .string (put)]) (by simp [results, Tryd.results21, go_sem]) rfl ?_
      refine ⟨s, put, m, m + k, ?_, hs, hp, by omega, by omega, by omega, hb5.out⟩
      rw [← HE.out]
  | false =>
    have HE := hide ek
    clear ek
    go_wp2
    refine bodyPost_ret (v := .tuple #[.string s, .int .i64 (m : Int), .int .i64 ((m : Int) + (k : Int)), .string (put)]) (by simp [results, Tryd.results21, go_sem]) rfl ?_
    refine ⟨s, put, m, m + k, ?_, hs, hp, by omega, by omega, by omega, hb5.out⟩
    rw [← HE.out]
end Go.Proofs.YtojlnnlcbpjdlaaDoor
