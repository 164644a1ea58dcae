/- The model's l12Split, at a tree. -/
import Derived.Test.YtgacajnljplmiabDoorRptd
set_option linter.unusedVariables false
namespace Go.Proofs.YtgacajnljplmiabDoor
open Go.RowKit
open Doc1

theorem sg_jn {l : List Bg} {f E : Nat} {a b : Lm} (h : SG l f E (.jn a b)) : ∃ m e, e + 1 = E ∧ SG l f m a ∧ SG l m e b ∧ l[e]? = some ⟨(m : Int) - 1, (e : Int) - 1, eT, ((a.sz + b.sz : Nat) : Int), ((max a.dp b.dp + 1 : Nat) : Int)⟩ := by
  cases h with
  | jn s1 s2 hr => exact ⟨_, _, rfl, s1, s2, hr⟩

set_option maxRecDepth 100000 in
set_option maxHeartbeats 8000000 in
theorem l12Split_jn (p q : Lm) (n : Nat) (a : Option Addr) (cap : Nat) (w : World) (h : BoIn w a cap (bo (some (.jn p q)))) (h0 : 0 < n) (hn : n < p.sz + q.sz) (hg : (Lm.jn p q).gd) (hnb : (Lm.jn p q).nb ≤ 200) (hs : p.sz + q.sz ≤ 100000)
    (iha : ∀ (m : Nat) (a : Option Addr) (cap : Nat) (w : World), BoIn w a cap (bo (some p)) → m ≤ p.sz → Calls Tryd.prog 68 #[.slice a (bo (some p)).length cap, .int .i64 (m : Int)] w (SqPost w (spl p m).1 (spl p m).2))
    (ihb : ∀ (m : Nat) (a : Option Addr) (cap : Nat) (w : World), BoIn w a cap (bo (some q)) → m ≤ q.sz → Calls Tryd.prog 68 #[.slice a (bo (some q)).length cap, .int .i64 (m : Int)] w (SqPost w (spl q m).1 (spl q m).2))
    (hp0 : 0 < p.sz) (za : ∀ m, m ≤ p.sz → szO (spl p m).2 ≤ 100000) (zb : ∀ m, m ≤ q.sz → szO (spl q m).1 ≤ 100000) :
    Calls Tryd.prog 68 #[.slice a (bo (some (.jn p q))).length cap, .int .i64 (n : Int)] w (SqPost w (spl (.jn p q) n).1 (spl (.jn p q) n).2) := by
  have hbl : (bo (some (.jn p q))).length = p.nb + q.nb + 1 := by rw [bo_len]; rfl
  have hnb2 : p.nb + q.nb + 1 ≤ 200 := hnb
  have np := Lm.nb_pos p
  have nq := Lm.nb_pos q
  have Z := hide (l12Size_any h (by omega))
  rw [lastZ_bo, show szO (some (.jn p q)) = p.sz + q.sz from rfl] at Z
  obtain ⟨g, rfl, hgb, hc⟩ := h.ad (by intro c; rw [c] at hbl; simp at hbl)
  have hcl := h.le
  have hcm := h.mx
  unfold maxLen at hcm
  have sg : SG (bo (some (.jn p q))) 0 (bo (some (.jn p q))).length (.jn p q) := SG.rp.2 ⟨rfl, hg⟩
  have tx := bo_txt (o := some (.jn p q)) hg
  obtain ⟨L, hL⟩ : ∃ L, bo (some (.jn p q)) = L := ⟨_, rfl⟩
  rw [hL] at Z hc hcl sg tx hbl h ⊢
  rw [hbl] at sg
  obtain ⟨m, e, he, s1, s2, hr⟩ : ∃ m e, e + 1 = p.nb + q.nb + 1 ∧ SG L 0 m p ∧ SG L m e q ∧ L[e]? = some ⟨(m : Int) - 1, (e : Int) - 1, eT, ((p.sz + q.sz : Nat) : Int), ((max p.dp q.dp + 1 : Nat) : Int)⟩ := sg_jn sg
  have m1 := s1.lt.1
  have m2 := s2.lt.1
  obtain ⟨i, hi⟩ : ∃ i, m = i + 1 := ⟨m - 1, by omega⟩
  obtain ⟨j, hj⟩ : ∃ j, e = j + 1 := ⟨e - 1, by omega⟩
  subst hi hj
  have heL : j + 1 < L.length := by omega
  obtain ⟨b0, b1, b2, b3, b4⟩ := hc.bgat (j + 1) heL
  have hx : L[j + 1] = ⟨((i + 1 : Nat) : Int) - 1, ((j + 1 : Nat) : Int) - 1, eT, ((p.sz + q.sz : Nat) : Int), ((max p.dp q.dp + 1 : Nat) : Int)⟩ := (List.getElem_eq_iff _).2 hr
  rw [hx] at b0 b1 b2 b3 b4
  rw [show ((i + 1 : Nat) : Int) - 1 = (i : Int) by omega] at b0
  rw [show ((j + 1 : Nat) : Int) - 1 = (j : Int) by omega] at b1
  simp only at b0 b1 b2 b3 b4
  obtain ⟨dp, hdp⟩ : ∃ d : Int, ((max p.dp q.dp + 1 : Nat) : Int) = d := ⟨_, rfl⟩
  rw [hdp] at b4
  obtain ⟨zz, hzz⟩ : ∃ d : Int, ((p.sz + q.sz : Nat) : Int) = d := ⟨_, rfl⟩
  rw [hzz] at b3 Z
  have P1 := hide (fun w' (hb : Below w.heap.size w w') => l12Part_any s1 (w := w') (by omega) hcl hcm tx (hc.later hb hgb) (Nat.lt_of_lt_of_le hgb hb.size))
  have P2 := hide (fun w' (hb : Below w.heap.size w w') => l12Part_any s2 (w := w') (by omega) hcl hcm tx (hc.later hb hgb) (Nat.lt_of_lt_of_le hgb hb.size))
  unfold OwPost at P1 P2
  rw [show p.pd 0 = bo (some p) from rfl] at P1
  rw [show q.pd 0 = bo (some q) from rfl] at P2
  have Z1 := hide (fun (w' : World) (a : Option Addr) (c : Nat) (h : BoIn w' a c (bo (some p))) => l12Size_any h (by rw [bo_len]; show p.nb ≤ _; omega))
  simp only [lastZ_bo, show szO (some p) = p.sz from rfl] at Z1
  have n1 := spl_nb p n
  have n2 := spl_nb q (n - p.sz)
  have J1 := hide (fun (w' : World) (a b : Option Addr) (ca cb : Nat) (hz : n ≤ p.sz) (ha : BoIn w' a ca (bo (spl p n).2)) (hb : BoIn w' b cb (bo (some q))) => l12Join_any _ _ a b ca cb w' ha hb (by show nbO (spl p n).2 + q.nb ≤ _; omega) (by have := za n hz; show szO (spl p n).2 + q.sz ≤ _; omega))
  have J2 := hide (fun (w' : World) (a b : Option Addr) (ca cb : Nat) (hz : n - p.sz ≤ q.sz) (ha : BoIn w' a ca (bo (some p))) (hb : BoIn w' b cb (bo (spl q (n - p.sz)).1)) => l12Join_any _ _ a b ca cb w' ha hb (by show p.nb + nbO (spl q (n - p.sz)).1 ≤ _; omega) (by have := zb (n - p.sz) hz; show p.sz + szO (spl q (n - p.sz)).1 ≤ _; omega))
  unfold BiPost at J1 J2
  have I1 := hide (fun a cap w (h : BoIn w a cap (bo (some p))) (hz : n ≤ p.sz) => iha n a cap w h hz)
  have I2 := hide (fun a cap w (h : BoIn w a cap (bo (some q))) (hz : n - p.sz ≤ q.sz) => ihb (n - p.sz) a cap w h hz)
  unfold SqPost at I1 I2 ⊢
  have HX : Hid (spl (.jn p q) n = if n < p.sz then ((spl p n).1, jo (spl p n).2 (some q)) else (jo (some p) (spl q (n - p.sz)).1, (spl q (n - p.sz)).2)) := hide (spl_in p q (by omega) (by omega) hp0)
  obtain ⟨X1, X2⟩ : (n < p.sz → (spl (.jn p q) n).1 = (spl p n).1 ∧ (spl (.jn p q) n).2 = jo (spl p n).2 (some q)) ∧ (¬ n < p.sz → (spl (.jn p q) n).1 = jo (some p) (spl q (n - p.sz)).1 ∧ (spl (.jn p q) n).2 = (spl q (n - p.sz)).2) := ⟨fun c => by rw [HX.out, if_pos c]; exact ⟨rfl, rfl⟩, fun c => by rw [HX.out, if_neg c]; exact ⟨rfl, rfl⟩⟩
  have HX1 := hide X1
  have HX2 := hide X2
  obtain ⟨A, hA⟩ : ∃ A, bo (spl (.jn p q) n).1 = A := ⟨_, rfl⟩
  obtain ⟨B, hB⟩ : ∃ B, bo (spl (.jn p q) n).2 = B := ⟨_, rfl⟩
  have HA1 : Hid (n < p.sz → A = bo (spl p n).1 ∧ B = bo (jo (spl p n).2 (some q))) := hide (fun c => by rw [← hA, ← hB, (X1 c).1, (X1 c).2]; exact ⟨rfl, rfl⟩)
  have HA2 : Hid (¬ n < p.sz → A = bo (jo (some p) (spl q (n - p.sz)).1) ∧ B = bo (spl q (n - p.sz)).2) := hide (fun c => by rw [← hA, ← hB, (X2 c).1, (X2 c).2]; exact ⟨rfl, rfl⟩)
  rw [hA, hB]
  have h1 : ((n : Int) == 0) = false := by rw [beq_eq_false_iff_ne]; omega
  have h2 : ((n : Int) == zz) = false := by rw [beq_eq_false_iff_ne]; omega
  have e0 : decide ((i : Int) < 0) = false := by rw [decide_eq_false_iff_not]; omega
  obtain ⟨N, hN⟩ : ∃ N, L.length = N := ⟨_, rfl⟩
  rw [hN] at P1 P2 Z hcl heL hbl ⊢
  have ew : IntKind.i64.wrap ((N : Int) - 1) = ((j + 1 : Nat) : Int) := by rw [IntKind.wrap_i64]; omega
  obtain ⟨E, hE⟩ : ∃ E, j + 1 = E := ⟨_, rfl⟩
  rw [hE] at ew b0 b1 b2 b3 b4 heL
  obtain ⟨tE, htE⟩ : ∃ t : ByteArray, eT = t := ⟨_, rfl⟩
  rw [htE] at b2
  have hN200 : N ≤ 200 := by omega
  have HJN := hide (show i < N ∧ j < N by omega)
  obtain ⟨w1, hw1⟩ : ∃ w1, w1 = w.alloc (.cells #[.int .i64 (i : Int), .int .i64 (j : Int), .string tE, .int .i64 zz, .int .i64 dp] 65) := ⟨_, rfl⟩
  have hb1 : Below w.heap.size w w1 := by rw [hw1]; exact (Below.refl _ _).alloc (Nat.le_refl _) _
  have KC : Hid (∀ w', Below w1.heap.size w1 w' → w'.cell? ⟨w.heap.size, 1, none⟩ = some (.int .i64 (j : Int))) := hide (fun w' hb => by
    have e : w'.heap[w.heap.size]? = some (.cells #[.int .i64 (i : Int), .int .i64 (j : Int), .string tE, .int .i64 zz, .int .i64 dp] 65) := by
      rw [hb.block _ (by rw [hw1]; simp), hw1]; exact heap_alloc_new w _
    rw [cell_of_row _ _ 1 _ _ (0, 0) e]; rfl)
  have HB1 := hide hb1
  have Q1 := hide (P1.out w1 hb1)
  have G1 : Hid (∀ {B' : Nat} {v : Value} {l' : List Bg} {w' : World}, BoOwn w' B' v l' → ∃ a cap, v = .slice a l'.length cap ∧ BoIn w' a cap l') := hide (fun h => h.inn)
  clear h hc P1 hb1 hA hB X1 X2 HX hL hN hdp hzz hr hx s1 s2 sg tx iha ihb za zb hg hnb n1 n2 m1 m2 he hE htE hbl hnb2 np nq hcm
  go_enter Tryd.func68, Tryd.ntmps68
  go_wp2_with fail
  refine Z.out.mono ?_
  rintro e w0 ⟨rfl, rfl⟩
  clear Z
  go_wp2_with fail
  rw [← hw1]
  clear hw1
  refine Q1.out.mono ?_
  rintro e w2 ⟨v2, rfl, o2, hb2⟩
  obtain ⟨a2, c2, rfl, i2⟩ := G1.out o2
  have HI2 := hide i2
  have kc := KC.out _ hb2
  have HB2 : Hid (Below w0.heap.size w0 w2) := hide (HB1.out.trans (hb2.mono HB1.out.size))
  have Q2 := hide (P2.out w2 HB2.out)
  clear o2 i2 hb2 Q1 KC P2 HB1
  go_wp2_with fail
  refine Q2.out.mono ?_
  rintro e w3 ⟨v3, rfl, o3, hb3⟩
  obtain ⟨a3, c3, rfl, i3⟩ := G1.out o3
  have HI3 := hide i3
  have HI2' := hide (HI2.out.later hb3)
  have HB3 : Hid (Below w0.heap.size w0 w3) := hide (HB2.out.trans (hb3.mono HB2.out.size))
  have Q3 := hide (Z1.out w3 a2 c2 HI2'.out)
  clear o3 i3 hb3 Q2 HI2 HB2 kc Z1 G1
  go_wp2_with fail
  refine Q3.out.mono ?_
  rintro e w4 ⟨rfl, rfl⟩
  clear Q3
  by_cases hc : n < p.sz
  · have HAB := hide (HA1.out hc)
    have ed : decide ((n : Int) < (p.sz : Int)) = true := by rw [decide_eq_true_iff]; omega
    have Q4 := hide (I1.out a2 c2 w4 HI2'.out (by omega))
    have J := hide (fun w' a b ca cb => J1.out w' a b ca cb (by omega))
    obtain ⟨S1, hS1⟩ : ∃ S, bo (spl p n).1 = S := ⟨_, rfl⟩
    obtain ⟨S2, hS2⟩ : ∃ S, bo (spl p n).2 = S := ⟨_, rfl⟩
    obtain ⟨S3, hS3⟩ : ∃ S, bo (jo (spl p n).2 (some q)) = S := ⟨_, rfl⟩
    simp only [hS1, hS2, hS3] at Q4 J
    rw [hS1, hS3] at HAB
    clear HA1 HA2 HX1 HX2 I1 I2 J1 J2 hS1 hS2 hS3
    go_wp2_with fail
    refine Q4.out.mono ?_
    rintro e w5 ⟨a5, c5, a6, c6, rfl, i5, i6, hb5⟩
    have HI5 := hide i5
    have Q5 := hide (J.out w5 a6 a3 c6 c3 i6 (HI3.out.later hb5))
    have HB5 : Hid (Below w0.heap.size w0 w5) := hide (HB3.out.trans (hb5.mono HB3.out.size))
    clear i5 i6 hb5 Q4 J HI3 HI2' HB3
    go_wp2_with fail
    refine Q5.out.mono ?_
    rintro e w6 ⟨a7, c7, rfl, i7, hb6⟩
    have HI5' := hide (HI5.out.later hb6)
    have HI7 := hide i7
    have HB6 : Hid (Below w0.heap.size w0 w6) := hide (HB5.out.trans (hb6.mono HB5.out.size))
    clear i7 hb6 Q5 HI5 HB5
    go_wp2
    go_ret2
    obtain ⟨rfl, rfl⟩ := HAB.out
    exact ⟨_, _, _, _, rfl, HI5'.out, HI7.out, HB6.out⟩
  · have HAB := hide (HA2.out hc)
    have ed : decide ((n : Int) < (p.sz : Int)) = false := by rw [decide_eq_false_iff_not]; omega
    have ew2 : IntKind.i64.wrap ((n : Int) - (p.sz : Int)) = ((n - p.sz : Nat) : Int) := by rw [IntKind.wrap_i64]; omega
    have Q4 := hide (I2.out a3 c3 w4 HI3.out (by omega))
    have J := hide (fun w' a b ca cb => J2.out w' a b ca cb (by omega))
    obtain ⟨k, hk⟩ : ∃ k, n - p.sz = k := ⟨_, rfl⟩
    rw [hk] at ew2 Q4 J HAB
    obtain ⟨S1, hS1⟩ : ∃ S, bo (spl q k).1 = S := ⟨_, rfl⟩
    obtain ⟨S2, hS2⟩ : ∃ S, bo (spl q k).2 = S := ⟨_, rfl⟩
    obtain ⟨S3, hS3⟩ : ∃ S, bo (jo (some p) (spl q k).1) = S := ⟨_, rfl⟩
    simp only [hS1, hS2, hS3] at Q4 J
    rw [hS2, hS3] at HAB
    clear HA1 HA2 HX1 HX2 I1 I2 J1 J2 hS1 hS2 hS3 hk
    go_wp2_with fail
    refine Q4.out.mono ?_
    rintro e w5 ⟨a5, c5, a6, c6, rfl, i5, i6, hb5⟩
    have HI6 := hide i6
    have Q5 := hide (J.out w5 a2 a5 c2 c5 (HI2'.out.later hb5) i5)
    have HB5 : Hid (Below w0.heap.size w0 w5) := hide (HB3.out.trans (hb5.mono HB3.out.size))
    clear i5 i6 hb5 Q4 J HI3 HI2' HB3
    go_wp2_with fail
    refine Q5.out.mono ?_
    rintro e w6 ⟨a7, c7, rfl, i7, hb6⟩
    have HI6' := hide (HI6.out.later hb6)
    have HI7 := hide i7
    have HB6 : Hid (Below w0.heap.size w0 w6) := hide (HB5.out.trans (hb6.mono HB5.out.size))
    clear i7 hb6 Q5 HI6 HB5
    go_wp2
    go_ret2
    obtain ⟨rfl, rfl⟩ := HAB.out
    exact ⟨_, _, _, _, rfl, HI7.out, HI6'.out, HB6.out⟩

theorem l12Split_any (t : Lm) : ∀ (n : Nat) (a : Option Addr) (cap : Nat) (w : World), BoIn w a cap (bo (some t)) → n ≤ t.sz → t.gd → t.nb ≤ 200 → t.sz ≤ 100000 →
    Calls Tryd.prog 68 #[.slice a (bo (some t)).length cap, .int .i64 (n : Int)] w (SqPost w (spl t n).1 (spl t n).2) := by
  induction t with
  | pc s =>
    intro n a cap w h hn hg hb hs
    by_cases h0 : n = 0
    · subst h0; rw [spl_zero]; exact l12Split_zero _ a cap w h
    · by_cases h1 : n = (Lm.pc s).sz
      · subst h1; rw [spl_all _ (by omega)]; exact l12Split_all _ a cap w h (by omega) (by omega)
      · have e : spl (.pc s) n = (some (.pc (s.extract 0 n)), some (.pc (s.extract n s.size))) := by
          simp only [spl]; rw [if_neg h0, if_neg (by exact h1)]
        rw [e]
        have hz : (Lm.pc s).sz = s.size := rfl
        exact l12Split_pc s n a cap w h (by omega) (by omega) (by omega)
  | jn p q ihp ihq =>
    intro n a cap w h hn hg hb hs
    have hz : (Lm.jn p q).sz = p.sz + q.sz := rfl
    have hnb : (Lm.jn p q).nb = p.nb + q.nb + 1 := rfl
    obtain ⟨gp, gq⟩ := gd_jn.1 hg
    have zp := gd_sz gp
    have zq := gd_sz gq
    by_cases h0 : n = 0
    · subst h0; rw [spl_zero]; exact l12Split_zero _ a cap w h
    · by_cases h1 : n = (Lm.jn p q).sz
      · subst h1; rw [spl_all _ (by omega)]; exact l12Split_all _ a cap w h (by omega) (by omega)
      · exact l12Split_jn p q n a cap w h (by omega) (by omega) hg hb (by omega) (fun m a cap w h hm => ihp m a cap w h hm gp (by omega) (by omega)) (fun m a cap w h hm => ihq m a cap w h hm gq (by omega) (by omega)) zp.1
          (fun m hm => by have := spl_sz p m hm; omega) (fun m hm => by have := spl_sz q m hm; omega)
end Go.Proofs.YtgacajnljplmiabDoor
