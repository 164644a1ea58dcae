/- A longest text in common: the model's CommonOf. -/
import Derived.Test.YtojlnnlcbpjdlaaDoorCom3
import Derived.Test.YtojlnnlcbpjdlaaDoorRw5
set_option linter.unusedVariables false
namespace Go.Proofs.YtojlnnlcbpjdlaaDoor
open Go.RowKit
open Doc1

theorem fp_step {b : ByteArray} {k : Nat} (hk : k < b.size) (c : UInt8) : fp (b.data.toList.drop k) c = if b[k] = c then some 0 else (fp (b.data.toList.drop (k + 1)) c).map (· + 1) := by
  rw [drop_at b k hk, fp]
theorem fp_end {b : ByteArray} {k : Nat} (hk : b.size ≤ k) (c : UInt8) : fp (b.data.toList.drop k) c = none := by rw [drop_end b k hk]; rfl
def bV (A : List UInt8) : Option (Nat × Nat) → Int
  | none => -1
  | some q => ((A.getD q.1 0).toNat : Int)
def bI : Option (Nat × Nat) → Nat
  | none => 0
  | some q => q.1 + 1
def bK : Option (Nat × Nat) → Nat
  | none => 0
  | some q => q.2 + 1
/-- What is known in the model's rounds. -/
structure D9 (a b : ByteArray) (L : List UInt8) (W1 : World) (v : Value) (i k : Nat) (wr : World) : Prop where
  ex : ∃ out rest, out ++ rest = L ∧ Cmn a.data.toList b.data.toList i k rest ∧ wr.ownsRow W1.heap.size 5 1 v out.length (byt out)
  below : Below W1.heap.size W1 wr
theorem lcF_nat (a b : ByteArray) {x y i k : Nat} : (lcF a.data.toList b.data.toList x y = lcF a.data.toList b.data.toList i k - 1) ↔ lc (a.data.toList.drop x) (b.data.toList.drop y) + 1 = lc (a.data.toList.drop i) (b.data.toList.drop k) := by
  unfold lcF; omega

set_option maxRecDepth 100000 in
set_option maxHeartbeats 8000000 in
theorem commonS_good (a b : ByteArray) (w : World) (L : List UInt8) (hL : Cmn a.data.toList b.data.toList 0 0 L) (h1 : good a.data.toList = true) (h2 : good b.data.toList = true) (ha : a.size ≤ 300) (hb : b.size ≤ 300) :
    Calls Tryd.prog 50 #[.string a, .string b] w fun e w' => e = .returned (.tuple #[.string ⟨L.toArray⟩, .bool true]) ∧ Below w.heap.size w w' := by
  obtain ⟨i0, hi, hz0, hz1, hz2⟩ := info_parts Tryd.info5
  have H1 := l9Texts_any a b w (by omega) (by omega)
  rw [h1, h2] at H1
  replace H1 := hide H1
  have T := hide (l9Table_any a b w ha hb)
  have hLl : L.length ≤ 300 := by
    rw [cmn_len hL]
    have := lc_bd' a.data.toList b.data.toList
    simp at this ⊢
    omega
  have HL := hide hL
  clear h1 h2 hL
  go_enter Tryd.func50, Tryd.ntmps50
  go_wp2_with fail
  refine H1.out.mono ?_
  rintro e w' ⟨rfl, hw⟩
  replace hw := hw.symm
  subst hw
  go_wp2_with fail
  refine T.out.mono ?_
  rintro e W1 ⟨rfl, hLt, hb1⟩
  have HW := hide (And.intro hLt hb1)
  have hBW := hLt.lt
  have HD : Hid (D9 a b L W1 (.slice none 0 0) 0 0 W1) := hide ⟨⟨[], L, rfl, HL.out, World.ownsRow_nil _ _ _ _⟩, Below.refl _ _⟩
  clear hLt hb1 H1 T HL
  go_wp2
  go_loopw [7, 8, 9] (fun v vi vk wr => ∃ i k, i ≤ a.size ∧ k ≤ b.size ∧ vi = .int .i64 ((i : Nat) : Int) ∧ vk = .int .i64 ((k : Nat) : Int) ∧ ∃ v0, v0 = v ∧ Hid (D9 a b L W1 v0 i k wr)) (fun _ vi _ _ => a.size - (intOf vi).toNat)
  case atStart => exact ⟨0, 0, Nat.zero_le _, Nat.zero_le _, rfl, rfl, _, rfl, HD⟩
  case round =>
    obtain ⟨i, k, hia, hkb, rfl, rfl, v, hv0, HR⟩ := hrel
    subst hv0
    clear HD
    have hLt := HW.out.1.later HR.out.below
    have s0 := hLt.c i hia
    have c0 := (hLt.r i hia).c k (by omega)
    have hb0 := lcF_bd (a := a.data.toList) (b := b.data.toList) (by simpa using ha) i k
    have HLT := hide hLt
    clear hLt
    by_cases hpos : 0 < lcF a.data.toList b.data.toList i k
    · have HX : Hid (nxt a.data.toList b.data.toList i k (a.size - i) ≠ none) := hide (by
        have := nxt_ex (A := a.data.toList) (B := b.data.toList) (i := i) (k := k) (by unfold lcF at hpos; omega)
        simpa using this)
      obtain ⟨y0, hy0⟩ : ∃ y, lcF a.data.toList b.data.toList i k = y := ⟨_, rfl⟩
      have HY0 := hide hy0
      rw [hy0] at c0 hb0 hpos
      clear hy0
      have hd0 : decide (0 < y0) = true := decide_eq_true hpos
      obtain ⟨wo, rfl⟩ : ∃ wo, wo = wr := ⟨_, rfl⟩
      go_wp2
      go_loopw [10, 11, 12, 13] (fun vb vi vk vx w2 => ∃ n p, n ≤ a.size - i ∧ Hid (nxt a.data.toList b.data.toList i k n = p) ∧ vb = .int .i64 (bV a.data.toList p) ∧ vi = .int .i64 (bI p : Int) ∧ vk = .int .i64 (bK p : Int) ∧ vx = .int .i64 ((i + n : Nat) : Int) ∧ Hid (Below wo.heap.size wo w2)) (fun _ _ _ vx _ => a.size - (intOf vx).toNat)
      case atStart => exact ⟨0, none, by omega, hide rfl, rfl, rfl, rfl, rfl, hide (Below.refl _ _)⟩
      case round =>
        obtain ⟨n, p, hn, HN, rfl, rfl, rfl, rfl, HB2⟩ := hrel
        clear s0 c0 hd0
        obtain ⟨x, hx⟩ : ∃ x, i + n = x := ⟨_, rfl⟩
        rw [hx]
        by_cases hxa : x < a.size
        · have HDx : Hid (a.data.toList.getD (i + n) 0 = a[x]) := hide (by rw [hx]; exact getD_at a x hxa)
          have HA : Hid (a.data.toList[i + n]? = some a[x]) := hide (by rw [hx]; exact at_some a x hxa)
          have hcx := UInt8.toNat_lt a[x]
          have hcv : IntKind.i64.wrap (a[x].toNat : Int) = (a[x].toNat : Int) := by rw [IntKind.wrap_i64]; omega
          cases p with
          | none =>
            simp only [bV, bI, bK]
            go_wp2
            obtain ⟨wi, rfl⟩ : ∃ wi, wi = wr := ⟨_, rfl⟩
            go_loopw [14] (fun vy w3 => ∃ m, k + m ≤ b.size ∧ vy = .int .i64 ((k + m : Nat) : Int) ∧ Hid (fp (b.data.toList.drop k) a[x] = (fp (b.data.toList.drop (k + m)) a[x]).map (· + m)) ∧ Hid (Below wo.heap.size wo w3)) (fun vy _ => b.size - (intOf vy).toNat)
            case atStart => exact ⟨0, hkb, rfl, hide (by cases fp (b.data.toList.drop k) a[x] <;> simp), HB2⟩
            case round =>
              obtain ⟨m, hm, rfl, HF, HB3⟩ := hrel
              clear HB2
              obtain ⟨y, hy⟩ : ∃ y, k + m = y := ⟨_, rfl⟩
              rw [hy]
              by_cases hyb : y < b.size
              · have hd1 : decide ((y : Int) < (b.size : Int)) = true := decide_eq_true (by omega)
                by_cases he : b[y] = a[x]
                · have hq : ((b[y].toNat : Int) != (a[x].toNat : Int)) = false := by rw [bne, u8_beq he]; rfl
                  have hf : fp (b.data.toList.drop k) a[x] = some m := by rw [HF.out, hy, fp_step hyb, if_pos he]; simp
                  have hcy := cnd_yes (i := i) HA.out hf
                  rw [hx, hy] at hcy
                  have LT3 := HLT.out.later HB3.out
                  have s1 := LT3.c (x + 1) (by omega)
                  have c1 := (LT3.r (x + 1) (by omega)).c (y + 1) (by omega)
                  have s0 := LT3.c i hia
                  have c0 := (LT3.r i hia).c k (by omega)
                  have hb1 := lcF_bd (a := a.data.toList) (b := b.data.toList) (by simpa using ha) (x + 1) (y + 1)
                  have hlc := lcF_nat a b (x := x + 1) (y := y + 1) (i := i) (k := k)
                  rw [HY0.out] at c0 hlc
                  obtain ⟨y1, hy1⟩ : ∃ yy, lcF a.data.toList b.data.toList (x + 1) (y + 1) = yy := ⟨_, rfl⟩
                  rw [hy1] at c1 hb1 hlc
                  clear hy1 LT3 hf he
                  by_cases hv : y1 = y0 - 1
                  · have HS : Hid (nxt a.data.toList b.data.toList i k (n + 1) = some (x, y)) := hide (by rw [nxt_fresh HN.out, hx, hcy, if_pos (hlc.1 hv)])
                    have hq2 : (y1 == y0 - 1) = true := by simpa using hv
                    have HBV : Hid (a.data.toList.getD x 0 = a[x]) := hide (getD_at a x hxa)
                    clear hcy hlc hv
                    go_wp2
                    go_quiet (fail)
                    go_wp2
                    go_quiet (fail)
                    go_wp2
                    refine ⟨⟨n + 1, some (x, y), by omega, HS, by show Value.int .i64 _ = Value.int .i64 ((a.data.toList.getD x 0).toNat : Int); rw [HBV.out], by first | rfl | go_num, by first | rfl | go_num, by rw [← Nat.add_assoc, hx]; rfl, hide (below_dN HB3.out _)⟩, by simp [intOf]; omega⟩
                  · have HS : Hid (nxt a.data.toList b.data.toList i k (n + 1) = none) := hide (by rw [nxt_fresh HN.out, hx, hcy, if_neg (fun c => hv (hlc.2 c))])
                    have hq2 : (y1 == y0 - 1) = false := by simpa using hv
                    clear hcy hlc hv
                    go_wp2
                    go_quiet (fail)
                    go_wp2
                    go_quiet (fail)
                    go_wp2
                    refine ⟨⟨n + 1, none, by omega, HS, rfl, rfl, rfl, by rw [← Nat.add_assoc, hx]; rfl, hide (below_dN HB3.out _)⟩, by simp [intOf]; omega⟩
                · have hq : ((b[y].toNat : Int) != (a[x].toNat : Int)) = true := by rw [bne, u8_bne he]; rfl
                  have HF' : Hid (fp (b.data.toList.drop k) a[x] = (fp (b.data.toList.drop (k + (m + 1))) a[x]).map (· + (m + 1))) := hide (by
                    rw [HF.out, hy, fp_step hyb, if_neg he, ← Nat.add_assoc, hy]
                    cases fp (b.data.toList.drop (y + 1)) a[x] <;> simp; omega)
                  clear he
                  go_wp2
                  go_quiet (fail)
                  go_wp2
                  refine ⟨⟨m + 1, by omega, by rw [← Nat.add_assoc, hy]; rfl, HF', hide (below_dN HB3.out _)⟩, by simp [intOf]; omega⟩
              · have hd1 : decide ((y : Int) < (b.size : Int)) = false := decide_eq_false (by omega)
                have hf : fp (b.data.toList.drop k) a[x] = none := by rw [HF.out, hy, fp_end (by omega)]; rfl
                have HS : Hid (nxt a.data.toList b.data.toList i k (n + 1) = none) := hide (by rw [nxt_fresh HN.out, cnd_no HA.out hf])
                clear hf
                go_wp2
                go_quiet (fail)
                go_wp2
                go_quiet (fail)
                go_wp2
                refine ⟨⟨n + 1, none, by omega, HS, rfl, rfl, rfl, by rw [← Nat.add_assoc, hx]; rfl, hide (below_dN HB3.out _)⟩, by simp [intOf]; omega⟩
          | some q =>
            obtain ⟨x0, z0⟩ := q
            simp only [bV, bI, bK]
            have hxx := nxt_is HN.out
            have hx0 : x0 < a.size := by have := hxx.2.1; simp only at this; omega
            have HX0 : Hid (a.data.toList.getD x0 0 = a[x0]) := hide (getD_at a x0 hx0)
            have hc0 := UInt8.toNat_lt a[x0]
            rw [HX0.out]
            clear hxx
            have hd2 : decide ((0 : Int) ≤ (a[x0].toNat : Int)) = true := decide_eq_true (by omega)
            by_cases hle : a[x0].toNat ≤ a[x].toNat
            · have hd : decide ((a[x0].toNat : Int) ≤ (a[x].toNat : Int)) = true := decide_eq_true (by omega)
              have HS : Hid (nxt a.data.toList b.data.toList i k (n + 1) = some (x0, z0)) := hide (nxt_keep HN.out (by simp only; rw [HX0.out, HDx.out]; exact hle))
              go_wp2
              refine ⟨⟨n + 1, some (x0, z0), by omega, HS, by show Value.int .i64 _ = Value.int .i64 ((a.data.toList.getD x0 0).toNat : Int); rw [HX0.out], rfl, rfl, by rw [← Nat.add_assoc, hx]; rfl, HB2⟩, by simp [intOf]; omega⟩
            · have hd : decide ((a[x0].toNat : Int) ≤ (a[x].toNat : Int)) = false := decide_eq_false (by omega)
              have HO := hide (nxt_over HN.out (by simp only; rw [HX0.out, HDx.out]; exact hle))
              go_wp2
              obtain ⟨wi, rfl⟩ : ∃ wi, wi = wr := ⟨_, rfl⟩
              go_loopw [14] (fun vy w3 => ∃ m, k + m ≤ b.size ∧ vy = .int .i64 ((k + m : Nat) : Int) ∧ Hid (fp (b.data.toList.drop k) a[x] = (fp (b.data.toList.drop (k + m)) a[x]).map (· + m)) ∧ Hid (Below wo.heap.size wo w3)) (fun vy _ => b.size - (intOf vy).toNat)
              case atStart => exact ⟨0, hkb, rfl, hide (by cases fp (b.data.toList.drop k) a[x] <;> simp), HB2⟩
              case round =>
                obtain ⟨m, hm, rfl, HF, HB3⟩ := hrel
                clear HB2
                obtain ⟨y, hy⟩ : ∃ y, k + m = y := ⟨_, rfl⟩
                rw [hy]
                by_cases hyb : y < b.size
                · have hd1 : decide ((y : Int) < (b.size : Int)) = true := decide_eq_true (by omega)
                  by_cases he : b[y] = a[x]
                  · have hq : ((b[y].toNat : Int) != (a[x].toNat : Int)) = false := by rw [bne, u8_beq he]; rfl
                    have hf : fp (b.data.toList.drop k) a[x] = some m := by rw [HF.out, hy, fp_step hyb, if_pos he]; simp
                    have hcy := cnd_yes (i := i) HA.out hf
                    rw [hx, hy] at hcy
                    have LT3 := HLT.out.later HB3.out
                    have s1 := LT3.c (x + 1) (by omega)
                    have c1 := (LT3.r (x + 1) (by omega)).c (y + 1) (by omega)
                    have s0 := LT3.c i hia
                    have c0 := (LT3.r i hia).c k (by omega)
                    have hb1 := lcF_bd (a := a.data.toList) (b := b.data.toList) (by simpa using ha) (x + 1) (y + 1)
                    have hlc := lcF_nat a b (x := x + 1) (y := y + 1) (i := i) (k := k)
                    rw [HY0.out] at c0 hlc
                    obtain ⟨y1, hy1⟩ : ∃ yy, lcF a.data.toList b.data.toList (x + 1) (y + 1) = yy := ⟨_, rfl⟩
                    rw [hy1] at c1 hb1 hlc
                    clear hy1 LT3 hf he
                    by_cases hv : y1 = y0 - 1
                    · have HS : Hid (nxt a.data.toList b.data.toList i k (n + 1) = some (x, y)) := hide (by rw [HO.out, hx, hcy, if_pos (hlc.1 hv)])
                      have hq2 : (y1 == y0 - 1) = true := by simpa using hv
                      have HBV : Hid (a.data.toList.getD x 0 = a[x]) := hide (getD_at a x hxa)
                      clear hcy hlc hv
                      go_wp2
                      go_quiet (fail)
                      go_wp2
                      go_quiet (fail)
                      go_wp2
                      refine ⟨⟨n + 1, some (x, y), by omega, HS, by show Value.int .i64 _ = Value.int .i64 ((a.data.toList.getD x 0).toNat : Int); rw [HBV.out], by first | rfl | go_num, by first | rfl | go_num, by rw [← Nat.add_assoc, hx]; rfl, hide (below_dN HB3.out _)⟩, by simp [intOf]; omega⟩
                    · have HS : Hid (nxt a.data.toList b.data.toList i k (n + 1) = some (x0, z0)) := hide (by rw [HO.out, hx, hcy, if_neg (fun c => hv (hlc.2 c))])
                      have hq2 : (y1 == y0 - 1) = false := by simpa using hv
                      clear hcy hlc hv
                      go_wp2
                      go_quiet (fail)
                      go_wp2
                      go_quiet (fail)
                      go_wp2
                      refine ⟨⟨n + 1, some (x0, z0), by omega, HS, by show Value.int .i64 _ = Value.int .i64 ((a.data.toList.getD x0 0).toNat : Int); rw [HX0.out], rfl, rfl, by rw [← Nat.add_assoc, hx]; rfl, hide (below_dN HB3.out _)⟩, by simp [intOf]; omega⟩
                  · have hq : ((b[y].toNat : Int) != (a[x].toNat : Int)) = true := by rw [bne, u8_bne he]; rfl
                    have HF' : Hid (fp (b.data.toList.drop k) a[x] = (fp (b.data.toList.drop (k + (m + 1))) a[x]).map (· + (m + 1))) := hide (by
                      rw [HF.out, hy, fp_step hyb, if_neg he, ← Nat.add_assoc, hy]
                      cases fp (b.data.toList.drop (y + 1)) a[x] <;> simp; omega)
                    clear he
                    go_wp2
                    go_quiet (fail)
                    go_wp2
                    refine ⟨⟨m + 1, by omega, by rw [← Nat.add_assoc, hy]; rfl, HF', hide (below_dN HB3.out _)⟩, by simp [intOf]; omega⟩
                · have hd1 : decide ((y : Int) < (b.size : Int)) = false := decide_eq_false (by omega)
                  have hf : fp (b.data.toList.drop k) a[x] = none := by rw [HF.out, hy, fp_end (by omega)]; rfl
                  have HS : Hid (nxt a.data.toList b.data.toList i k (n + 1) = some (x0, z0)) := hide (by rw [HO.out, cnd_no HA.out hf])
                  clear hf
                  go_wp2
                  go_quiet (fail)
                  go_wp2
                  go_quiet (fail)
                  go_wp2
                  refine ⟨⟨n + 1, some (x0, z0), by omega, HS, by show Value.int .i64 _ = Value.int .i64 ((a.data.toList.getD x0 0).toNat : Int); rw [HX0.out], rfl, rfl, by rw [← Nat.add_assoc, hx]; rfl, hide (below_dN HB3.out _)⟩, by simp [intOf]; omega⟩
        · have hpx : nxt a.data.toList b.data.toList i k (a.size - i) = p := by rw [show a.size - i = n by omega]; exact HN.out
          cases p with
          | none => exact absurd hpx HX.out
          | some q =>
            obtain ⟨x0, z0⟩ := q
            have hq := cnd_is (nxt_is hpx).2.2
            have hq1 := (nxt_is hpx).1
            simp only at hq hq1
            have hx0 : x0 < a.size := by simpa using hq.1
            have hz0b : z0 < b.size := by simpa using hq.2.2.1
            obtain ⟨out, rest, e1, e2, ow⟩ := HR.out.ex
            obtain ⟨L', e3, e4⟩ := e2.some (p := (x0, z0)) (by simpa using hpx)
            have hol : out.length + 1 ≤ 300 := by
              rw [← e1, e3, List.length_append, List.length_cons] at hLl
              omega
            have hel := byt_len out
            have ow2 := own_bl ow HB2.out
            have hB2 : Below W1.heap.size W1 wr := HR.out.below.trans (HB2.out.mono HR.out.below.size)
            have hbs := hB2.size
            have HE := hide (And.intro e1 (And.intro e3 e4))
            have HO : Hid (a.data.toList.getD x0 0 = a[x0]) := hide (getD_at a x0 hx0)
            have hc0 := UInt8.toNat_lt a[x0]
            have hcv : IntKind.u8.wrap (a[x0].toNat : Int) = (a[x0].toNat : Int) := by rw [IntKind.wrap_u8]; omega
            simp only [bV, bI, bK]
            rw [HO.out]
            have HB := hide hB2
            clear e1 e2 e3 e4 hq hpx HR HB2 hB2 ow HX HN HLT HY0
            go_wp2_with (at_builtin; (refine wpList_append_own _ rfl _ _ 22 rfl W1.heap.size 5 i0 (.int .u8 0) 1 1 Tryd.underlying22 hi hz0 hz1 hz2 rfl (by decide) _ _ _ rfl (ow2.alloc _) ⟨wr.heap.size, 0, none⟩ 1 1 [.int .u8 (a[x0].toNat : Int)] rfl rfl (cell_one_new _ _ _) (by intro u hu; simp at hu; subst hu; rfl) (by unfold maxLen; omega) (by omega) (by simp <;> omega) ?_); intro v' w3 own3 grow3 _; (have HB3 := hide (below_append HB.out ow2 HB.out.size grow3)); (have HN : Hid (w3.ownsRow W1.heap.size 5 1 v' (out ++ [a[x0]]).length (byt (out ++ [a[x0]]))) := hide (by rw [byt_snoc, List.length_append]; exact own3)); clear own3 grow3 ow2)
            have HC : Hid (D9 a b L W1 v' (x0 + 1) (z0 + 1) w3) := hide ⟨⟨out ++ [a[x0]], L', by rw [← HE.out.1, HE.out.2.1, ← HO.out, List.append_assoc]; rfl, HE.out.2.2, HN.out⟩, HB3.out⟩
            exact ⟨⟨x0 + 1, z0 + 1, by omega, by omega, by go_num, by go_num, _, rfl, HC⟩, by simp [intOf]; omega⟩
    · have hz : lc (a.data.toList.drop i) (b.data.toList.drop k) = 0 := by unfold lcF at hpos; omega
      obtain ⟨out, rest, e1, e2, ow⟩ := HR.out.ex
      have e3 : rest = [] := e2.none (nxt_zero hz _)
      rw [e3, List.append_nil] at e1
      subst e1
      have hcv := conv_own ow
      have HB := hide HR.out.below
      obtain ⟨y0, hy0⟩ : ∃ y, lcF a.data.toList b.data.toList i k = y := ⟨_, rfl⟩
      rw [hy0] at c0 hb0 hpos
      clear hy0 HR ow e2 e3 HLT hz
      go_wp2
      go_ret2
      exact ⟨rfl, HW.out.2.trans (HB.out.mono HW.out.2.size)⟩

/-- What both answer. -/
theorem common_bad {a b : ByteArray} (w : World) (ha : a.size ≤ 1048576) (hb : b.size ≤ 1048576) (h : (good a.data.toList && good b.data.toList) = false) :
    Calls Tryd.prog 50 #[.string a, .string b] w fun e w' => e = .returned (.tuple #[.string ⟨#[]⟩, .bool false]) ∧ Below w.heap.size w w' := by
  have H1 := l9Texts_any a b w ha hb
  rw [h] at H1
  replace H1 := hide H1
  clear h
  go_enter Tryd.func50, Tryd.ntmps50
  go_wp2_with fail
  refine H1.out.mono ?_
  rintro e w' ⟨rfl, hw⟩
  replace hw := hw.symm
  subst hw
  go_wp2
  go_ret2
  exact ⟨rfl, Below.refl _ _⟩

set_option maxRecDepth 100000 in
theorem commonI_bad {a b : ByteArray} (w : World) (hT : Tab w) (ha : a.size ≤ 1048576) (hb : b.size ≤ 1048576) (h : (good a.data.toList && good b.data.toList) = false) :
    Calls Tryd.prog 49 #[.string a, .string b] w fun e w' => e = .returned (.tuple #[.string ⟨#[]⟩, .bool false]) ∧ Below w.heap.size w w' := by
  have M := hide (measure_bad 2 a b w hT ha hb h)
  clear h hT
  go_enter Tryd.func49, Tryd.ntmps49
  go_wp2_with fail
  refine M.out.mono ?_
  rintro e w1 ⟨rfl, hb1⟩
  go_wp2
  go_ret2
  exact ⟨rfl, hb1.alloc hb1.size _⟩

theorem commonOf_both (a b : ByteArray) (ha : a.size ≤ 1048576) (hb : b.size ≤ 1048576) :
    ∃ (x : ByteArray) (y : Bool), (∀ (w : World), Calls Tryd.prog 50 #[.string a, .string b] w fun e w' => e = .returned (.tuple #[.string x, .bool y]) ∧ Below w.heap.size w w') ∧
      (∀ (w : World), Tab w → Calls Tryd.prog 49 #[.string a, .string b] w fun e w' => e = .returned (.tuple #[.string x, .bool y]) ∧ Below w.heap.size w w') := by
  by_cases h : (good a.data.toList && good b.data.toList) = true
  · rw [Bool.and_eq_true] at h
    obtain ⟨L, hL⟩ := cmn_ex a.data.toList b.data.toList _ 0 0 (Nat.le_refl _)
    exact ⟨⟨L.toArray⟩, true, fun w => commonS_good a b w L hL h.1 h.2 (good_len' h.1) (good_len' h.2), fun w hT => commonI_good a b w L hL hT h.1 h.2 (good_len' h.1) (good_len' h.2)⟩
  · rw [Bool.not_eq_true] at h
    exact ⟨⟨#[]⟩, false, fun w => common_bad w ha hb h, fun w hT => commonI_bad w hT ha hb h⟩
end Go.Proofs.YtojlnnlcbpjdlaaDoor
