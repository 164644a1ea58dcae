/- The contract of impl.measured.nextCommon. -/
import Derived.Test.YtojlnnlcbpjdlaaDoorRwM
import Derived.Test.YtojlnnlcbpjdlaaDoorLcM
import Derived.Test.YtojlnnlcbpjdlaaDoorShelf
import Derived.BigQuiet
import Derived.Deep.QuietTactic
set_option linter.unusedVariables false
namespace Go.Proofs.YtojlnnlcbpjdlaaDoor
open Go.RowKit
open Doc1

theorem nxt_keep {A B : List UInt8} {i k n : Nat} {p : Nat × Nat} (h : nxt A B i k n = some p) (hle : (A.getD p.1 0).toNat ≤ (A.getD (i + n) 0).toNat) : nxt A B i k (n + 1) = some p := by
  unfold nxt; rw [h]; simp only; rw [if_pos hle]
theorem nxt_over {A B : List UInt8} {i k n : Nat} {p : Nat × Nat} (h : nxt A B i k n = some p) (hle : ¬ (A.getD p.1 0).toNat ≤ (A.getD (i + n) 0).toNat) : nxt A B i k (n + 1) = match cnd A B i k (i + n) with | some y => some (i + n, y) | none => some p := by
  rw [nxt, h]; simp only; rw [if_neg hle]
  cases cnd A B i k (i + n) <;> rfl
theorem nxt_fresh {A B : List UInt8} {i k n : Nat} (h : nxt A B i k n = none) : nxt A B i k (n + 1) = match cnd A B i k (i + n) with | some y => some (i + n, y) | none => none := by
  rw [nxt, h]; simp only
  cases cnd A B i k (i + n) <;> rfl
theorem getD_at (s : ByteArray) (k : Nat) (h : k < s.size) : s.data.toList.getD k 0 = s[k] := by
  rw [List.getD_eq_getElem?_getD, at_some s k h]; rfl
theorem cut_from (b : ByteArray) (j : Nat) : (b.extract j b.size).data.toList = b.data.toList.drop j := by
  simp only [ByteArray.data_extract, Array.toList_extract, List.extract_eq_take_drop]
  exact List.take_of_length_le (by simp)
theorem edF_lc {A B : List UInt8} {j : Nat} (hj : j ≤ B.length) : edF 2 A B j = (A.length : Int) + ((B.length : Int) - j) - 2 * (lc A (B.drop j) : Int) := by
  unfold edF
  rw [if_pos hj]
  have := ed_lc A (B.drop j)
  rw [List.length_drop] at this
  omega
/-- What is told of the rows is told of what is in common. -/
theorem rows_lc {a b : ByteArray} {i j k y : Nat} (hi : i ≤ k) (hk : k < a.size) (hy : j + y < b.size) : ((k : Int) - i + y + edF 2 (a.data.toList.drop (k + 1)) b.data.toList (j + y + 1) = edF 2 (a.data.toList.drop i) b.data.toList j) ↔ lc (a.data.toList.drop (k + 1)) (b.data.toList.drop (j + y + 1)) + 1 = lc (a.data.toList.drop i) (b.data.toList.drop j) := by
  rw [edF_lc (by simpa using (by omega : j + y + 1 ≤ b.size)), edF_lc (by simpa using (by omega : j ≤ b.size)), List.length_drop, List.length_drop]
  simp only [Array.length_toList, ByteArray.size_data]
  omega

def nX : Option (Nat × Nat) → Nat
  | none => 0
  | some p => p.1
def nY : Option (Nat × Nat) → Nat
  | none => 0
  | some p => p.2

set_option maxRecDepth 100000 in
set_option maxHeartbeats 8000000 in
theorem nextCommon_any (a b : ByteArray) (G i j : Nat) (w : World) (hr : TbAt w G 2 a b 0) (ha : a.size ≤ 300) (hb : b.size ≤ 300) (hi : i ≤ a.size) (hj : j ≤ b.size) :
    Calls Tryd.prog 97 #[.agg #[.string a, .string b, .slice (some ⟨G, 0, none⟩) (a.size + 1) (a.size + 1)], .int .i64 (i : Int), .int .i64 (j : Int)] w fun e w' => e = .returned (.tuple #[.int .i64 (nX (nxt a.data.toList b.data.toList i j (a.size - i)) : Int), .int .i64 (nY (nxt a.data.toList b.data.toList i j (a.size - i)) : Int), .bool (nxt a.data.toList b.data.toList i j (a.size - i)).isSome]) ∧ Below w.heap.size w w' := by
  have hh := heap_alloc_new w (.cells #[.string a, .string b, .slice (some ⟨G, 0, none⟩) (a.size + 1) (a.size + 1)] 123)
  have hr0 := hr.later ((Below.refl _ _).alloc (Nat.le_refl _) (.cells #[.string a, .string b, .slice (some ⟨G, 0, none⟩) (a.size + 1) (a.size + 1)] 123))
  have hB0 : Below w.heap.size w (w.alloc (.cells #[.string a, .string b, .slice (some ⟨G, 0, none⟩) (a.size + 1) (a.size + 1)] 123)) := (Below.refl _ _).alloc (Nat.le_refl _) _
  have HQ := hide (And.intro hB0 (And.intro hr0 hh))
  have IB := hide (fun (c : UInt8) (w1 : World) => Tryd.strings_IndexByte (b.extract j b.size) (c.toNat : Int) w1)
  clear hh hr0 hB0 hr
  go_enter Tryd.func97, Tryd.ntmps97
  go_wp2
  generalize w.alloc (.cells #[.string a, .string b, .slice (some ⟨G, 0, none⟩) (a.size + 1) (a.size + 1)] 123) = W0 at *
  go_loopw [9, 10, 11, 12] (fun vx vy vf vk wr => ∃ n p, n ≤ a.size - i ∧ Hid (nxt a.data.toList b.data.toList i j n = p) ∧ vx = .int .i64 (nX p : Int) ∧ vy = .int .i64 (nY p : Int) ∧ vf = .bool p.isSome ∧ vk = .int .i64 ((i + n : Nat) : Int) ∧ Hid (Below w.heap.size w wr ∧ TbAt wr G 2 a b 0 ∧ wr.heap[w.heap.size]? = some (.cells #[.string a, .string b, .slice (some ⟨G, 0, none⟩) (a.size + 1) (a.size + 1)] 123))) (fun _ _ _ vk _ => a.size - (intOf vk).toNat)
  case atStart => exact ⟨0, none, by omega, hide rfl, rfl, rfl, rfl, rfl, HQ⟩
  case round =>
    obtain ⟨n, p, hn, HN, rfl, rfl, rfl, rfl, HR⟩ := hrel
    clear HQ
    obtain ⟨k, hk⟩ : ∃ k, i + n = k := ⟨_, rfl⟩
    rw [hk]
    have c0 := cell_of_row wr w.heap.size 0 _ _ _ HR.out.2.2
    have c1 := cell_of_row wr w.heap.size 1 _ _ _ HR.out.2.2
    have c2 := cell_of_row wr w.heap.size 2 _ _ _ HR.out.2.2
    simp only [List.getElem?_toArray, List.getElem?_cons_zero, List.getElem?_cons_succ] at c0 c1 c2
    by_cases hka : k < a.size
    · have HD : Hid (a.data.toList.getD (i + n) 0 = a[k]) := hide (by rw [hk]; exact getD_at a k hka)
      have HA : Hid (a.data.toList[i + n]? = some a[k]) := hide (by rw [hk]; exact at_some a k hka)
      cases p with
      | none =>
        simp only [nX, nY, Option.isSome_none]
        have IB' := IB.out a[k]
        have ecu : ((a[k].toNat : Int)).toNat.toUInt8 = a[k] := by simp
        rw [ecu, cut_from, index_fp] at IB'
        cases hf : fp (b.data.toList.drop j) a[k] with
        | none =>
          rw [hf] at IB'
          simp only at IB'
          have HS : Hid (nxt a.data.toList b.data.toList i j (n + 1) = none) := hide (by rw [nxt_fresh HN.out, cnd_no HA.out hf])
          replace IB' := hide IB'
          clear hf ecu
          go_wp2
          go_quiet (fail)
          go_wp2
          go_quiet ((go_at_call 126; exact (IB'.out _).mono (fun _ _ h => ⟨h.1, _, h.2⟩)))
          go_wp2
          go_quiet (fail)
          go_wp2
          refine ⟨⟨n + 1, none, by omega, HS, rfl, rfl, rfl, by rw [← Nat.add_assoc, hk]; rfl, hide ⟨?_, ?_, ?_⟩⟩, by simp [intOf]; omega⟩
          · exact below_dN HR.out.1 _
          · exact HR.out.2.1.later (below_dN (Below.refl _ _) _)
          · exact HR.out.2.2
        | some y =>
          rw [hf] at IB'
          simp only at IB'
          have hy : j + y < b.size := by
            have := fp_lt hf
            rw [List.length_drop] at this
            simp only [Array.length_toList, ByteArray.size_data] at this
            omega
          have hcy := cnd_yes (i := i) HA.out hf
          have hrl := rows_lc (a := a) (b := b) (i := i) (j := j) (k := k) (y := y) (by omega) hka hy
          have r1 := (HR.out.2.1.r (k + 1) (Nat.zero_le _) (by omega)).c (j + y + 1) (by omega)
          have r2 := (HR.out.2.1.r i (Nat.zero_le _) hi).c j (by omega)
          have b1 := edF_bd 2 (A := a.data.toList.drop (k + 1)) (B := b.data.toList) (by rw [List.length_drop]; simp; omega) (by simpa using hb) (j + y + 1)
          have b2 := edF_bd 2 (A := a.data.toList.drop i) (B := b.data.toList) (by rw [List.length_drop]; simp; omega) (by simpa using hb) j
          obtain ⟨z1, hz1⟩ : ∃ z, edF 2 (a.data.toList.drop (k + 1)) b.data.toList (j + y + 1) = z := ⟨_, rfl⟩
          obtain ⟨z2, hz2⟩ : ∃ z, edF 2 (a.data.toList.drop i) b.data.toList j = z := ⟨_, rfl⟩
          rw [hz1] at r1 b1 hrl
          rw [hz2] at r2 b2 hrl
          rw [← hk] at hrl
          rw [hk] at hrl
          clear hz1 hz2
          replace IB' := hide IB'
          have ei : IntKind.i64.wrap ((k : Int) - (i : Int)) = (k : Int) - (i : Int) := by rw [IntKind.wrap_i64]; omega
          by_cases he : (k : Int) - i + y + z1 = z2
          · have HS : Hid (nxt a.data.toList b.data.toList i j (n + 1) = some (k, j + y)) := hide (by rw [nxt_fresh HN.out, hcy, hk, if_pos (hrl.1 he)])
            have hq : ((k : Int) - (i : Int) + (y : Int) + z1 == z2) = true := by simpa using he
            clear hf ecu hcy hrl he
            go_wp2
            go_quiet (fail)
            go_wp2
            go_quiet ((go_at_call 126; exact (IB'.out _).mono (fun _ _ h => ⟨h.1, _, h.2⟩)))
            go_wp2
            go_quiet (fail)
            go_wp2
            refine ⟨⟨n + 1, some (k, j + y), by omega, HS, rfl, rfl, rfl, by rw [← Nat.add_assoc, hk]; rfl, hide ⟨?_, ?_, ?_⟩⟩, by simp [intOf]; omega⟩
            · exact below_dN HR.out.1 _
            · exact HR.out.2.1.later (below_dN (Below.refl _ _) _)
            · exact HR.out.2.2
          · have HS : Hid (nxt a.data.toList b.data.toList i j (n + 1) = none) := hide (by rw [nxt_fresh HN.out, hcy, hk, if_neg (fun c => he (hrl.2 c))])
            have hq : ((k : Int) - (i : Int) + (y : Int) + z1 == z2) = false := by simpa using he
            clear hf ecu hcy hrl he
            go_wp2
            go_quiet (fail)
            go_wp2
            go_quiet ((go_at_call 126; exact (IB'.out _).mono (fun _ _ h => ⟨h.1, _, h.2⟩)))
            go_wp2
            go_quiet (fail)
            go_wp2
            refine ⟨⟨n + 1, none, by omega, HS, rfl, rfl, rfl, by rw [← Nat.add_assoc, hk]; rfl, hide ⟨?_, ?_, ?_⟩⟩, by simp [intOf]; omega⟩
            · exact below_dN HR.out.1 _
            · exact HR.out.2.1.later (below_dN (Below.refl _ _) _)
            · exact HR.out.2.2
      | some p =>
        obtain ⟨x0, y0⟩ := p
        simp only [nX, nY, Option.isSome_some]
        have hx := nxt_is HN.out
        have hxa : x0 < a.size := by have := hx.2.1; simp only at this; omega
        have HX : Hid (a.data.toList.getD x0 0 = a[x0]) := hide (getD_at a x0 hxa)
        clear hx
        by_cases hle : a[x0].toNat ≤ a[k].toNat
        · have hd : decide ((a[x0].toNat : Int) ≤ (a[k].toNat : Int)) = true := decide_eq_true (by omega)
          have HS : Hid (nxt a.data.toList b.data.toList i j (n + 1) = some (x0, y0)) := hide (nxt_keep HN.out (by simp only; rw [HX.out, HD.out]; exact hle))
          clear IB
          go_wp2
          go_quiet (fail)
          go_wp2
          refine ⟨⟨n + 1, some (x0, y0), by omega, HS, rfl, rfl, rfl, by rw [← Nat.add_assoc, hk]; rfl, hide ⟨?_, ?_, ?_⟩⟩, by simp [intOf]; omega⟩
          · exact below_dN HR.out.1 _
          · exact HR.out.2.1.later (below_dN (Below.refl _ _) _)
          · exact HR.out.2.2
        · have hd : decide ((a[x0].toNat : Int) ≤ (a[k].toNat : Int)) = false := decide_eq_false (by omega)
          have HO := nxt_over HN.out (by simp only; rw [HX.out, HD.out]; exact hle)
          replace HO := hide HO
          have IB' := IB.out a[k]
          have ecu : ((a[k].toNat : Int)).toNat.toUInt8 = a[k] := by simp
          rw [ecu, cut_from, index_fp] at IB'
          cases hf : fp (b.data.toList.drop j) a[k] with
          | none =>
            rw [hf] at IB'
            simp only at IB'
            have HS : Hid (nxt a.data.toList b.data.toList i j (n + 1) = some (x0, y0)) := hide (by rw [HO.out, cnd_no HA.out hf])
            replace IB' := hide IB'
            clear hf ecu
            go_wp2
            go_quiet (fail)
            go_wp2
            go_quiet ((go_at_call 126; exact (IB'.out _).mono (fun _ _ h => ⟨h.1, _, h.2⟩)))
            go_wp2
            go_quiet (fail)
            go_wp2
            refine ⟨⟨n + 1, some (x0, y0), by omega, HS, rfl, rfl, rfl, by rw [← Nat.add_assoc, hk]; rfl, hide ⟨?_, ?_, ?_⟩⟩, by simp [intOf]; omega⟩
            · exact below_dN HR.out.1 _
            · exact HR.out.2.1.later (below_dN (Below.refl _ _) _)
            · exact HR.out.2.2
          | some y =>
            rw [hf] at IB'
            simp only at IB'
            have hy : j + y < b.size := by
              have := fp_lt hf
              rw [List.length_drop] at this
              simp only [Array.length_toList, ByteArray.size_data] at this
              omega
            have hcy := cnd_yes (i := i) HA.out hf
            have hrl := rows_lc (a := a) (b := b) (i := i) (j := j) (k := k) (y := y) (by omega) hka hy
            have r1 := (HR.out.2.1.r (k + 1) (Nat.zero_le _) (by omega)).c (j + y + 1) (by omega)
            have r2 := (HR.out.2.1.r i (Nat.zero_le _) hi).c j (by omega)
            have b1 := edF_bd 2 (A := a.data.toList.drop (k + 1)) (B := b.data.toList) (by rw [List.length_drop]; simp; omega) (by simpa using hb) (j + y + 1)
            have b2 := edF_bd 2 (A := a.data.toList.drop i) (B := b.data.toList) (by rw [List.length_drop]; simp; omega) (by simpa using hb) j
            obtain ⟨z1, hz1⟩ : ∃ z, edF 2 (a.data.toList.drop (k + 1)) b.data.toList (j + y + 1) = z := ⟨_, rfl⟩
            obtain ⟨z2, hz2⟩ : ∃ z, edF 2 (a.data.toList.drop i) b.data.toList j = z := ⟨_, rfl⟩
            rw [hz1] at r1 b1 hrl
            rw [hz2] at r2 b2 hrl
            rw [← hk] at hrl
            rw [hk] at hrl
            clear hz1 hz2
            replace IB' := hide IB'
            have ei : IntKind.i64.wrap ((k : Int) - (i : Int)) = (k : Int) - (i : Int) := by rw [IntKind.wrap_i64]; omega
            by_cases he : (k : Int) - i + y + z1 = z2
            · have HS : Hid (nxt a.data.toList b.data.toList i j (n + 1) = some (k, j + y)) := hide (by rw [HO.out, hcy, hk, if_pos (hrl.1 he)])
              have hq : ((k : Int) - (i : Int) + (y : Int) + z1 == z2) = true := by simpa using he
              clear hf ecu hcy hrl he
              go_wp2
              go_quiet (fail)
              go_wp2
              go_quiet ((go_at_call 126; exact (IB'.out _).mono (fun _ _ h => ⟨h.1, _, h.2⟩)))
              go_wp2
              go_quiet (fail)
              go_wp2
              refine ⟨⟨n + 1, some (k, j + y), by omega, HS, rfl, rfl, rfl, by rw [← Nat.add_assoc, hk]; rfl, hide ⟨?_, ?_, ?_⟩⟩, by simp [intOf]; omega⟩
              · exact below_dN HR.out.1 _
              · exact HR.out.2.1.later (below_dN (Below.refl _ _) _)
              · exact HR.out.2.2
            · have HS : Hid (nxt a.data.toList b.data.toList i j (n + 1) = some (x0, y0)) := hide (by rw [HO.out, hcy, hk, if_neg (fun c => he (hrl.2 c))])
              have hq : ((k : Int) - (i : Int) + (y : Int) + z1 == z2) = false := by simpa using he
              clear hf ecu hcy hrl he
              go_wp2
              go_quiet (fail)
              go_wp2
              go_quiet ((go_at_call 126; exact (IB'.out _).mono (fun _ _ h => ⟨h.1, _, h.2⟩)))
              go_wp2
              go_quiet (fail)
              go_wp2
              refine ⟨⟨n + 1, some (x0, y0), by omega, HS, rfl, rfl, rfl, by rw [← Nat.add_assoc, hk]; rfl, hide ⟨?_, ?_, ?_⟩⟩, by simp [intOf]; omega⟩
              · exact below_dN HR.out.1 _
              · exact HR.out.2.1.later (below_dN (Below.refl _ _) _)
              · exact HR.out.2.2
    · have HE : Hid (nxt a.data.toList b.data.toList i j (a.size - i) = p) := hide (by rw [show a.size - i = n by omega]; exact HN.out)
      go_wp2
      go_ret3
      exact ⟨by rw [HE.out]; rfl, HR.out.1⟩
end Go.Proofs.YtojlnnlcbpjdlaaDoor
