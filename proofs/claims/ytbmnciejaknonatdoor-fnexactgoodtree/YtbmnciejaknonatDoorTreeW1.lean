/- The contract of impl.TreeOf: the nodes of a document. -/
import Derived.Test.YtbmnciejaknonatDoorNodes1
import Derived.Test.YtbmnciejaknonatDoorTree3
import Derived.Test.YtbmnciejaknonatDoorShelf
import Derived.Lib.Strings
import Derived.Maps.AppendAt
namespace Go.Proofs.YtbmnciejaknonatDoor
open Go.RowKit
open Doc1

theorem ret_i {x y : Int} (h : x = y) : Ending.returned (.int .i64 x) = .returned (.int .i64 y) := by rw [h]
theorem val_i {x y : Int} (h : x = y) : Value.int .i64 x = .int .i64 y := by rw [h]
theorem pl_kd {c : UInt8} (h : (kd c == 1) = true) : plB c = true := by rw [kd_pl] at h; exact h
theorem npl_kd {c : UInt8} (h : (kd c == 1) = false) : plB c = false := by rw [kd_pl] at h; exact h

set_option maxHeartbeats 400000 in
theorem plainEnd_any (s : ByteArray) (k : Nat) (w : World) (hs : s.size ≤ 4194304) (hk : k ≤ s.size) (hT : Tab w) :
    Calls Tryd.prog 63 #[.string s, .int .i64 k] w fun e w' => e = .returned (.int .i64 (k + pe (s.data.toList.drop k) : Nat)) ∧ w' = w := by
  go_enter Tryd.func63, Tryd.ntmps63
  go_wp2
  go_loop [1] (fun i => ∃ m : Nat, m ≤ s.size ∧ i = .int .i64 m ∧ Hid (k + pe (s.data.toList.drop k) = m + pe (s.data.toList.drop m))) (fun i => s.size - (intOf i).toNat)
  case atStart => exact ⟨k, hk, rfl, rfl⟩
  case round =>
    obtain ⟨m, hm, rfl, hr⟩ := hrel
    by_cases hlt : m < s.size
    · go_wp2_with (go_at_call 55; refine (kindOf_any _ _ hT).mono ?_; rintro e w' ⟨rfl, hw⟩; replace hw := hw.symm; subst hw)
      · refine ⟨⟨m + 1, by omega, by go_num, hide (by have := pe_pl s m hlt (pl_kd ‹_›); have := hr.out; omega)⟩, by simp [intOf]; omega⟩
      · go_ret
        exact ⟨ret_i (by have := pe_no s m hlt (npl_kd ‹_›); have := hr.out; omega), rfl⟩
    · go_wp2
      go_ret
      exact ⟨ret_i (by have := pe_end s m (by omega); have := hr.out; omega), rfl⟩

theorem Tryd.infoNode : (Tryd.prog.info? 51).map (fun i => (i.zero, i.size, i.bytes)) = some (some (.agg #[.string ⟨#[]⟩, .string ⟨#[]⟩, .int .i64 0]), 3, 40) := by kernel_rfl
theorem encL_len (l : List Nd) : (encL l).length = l.length * 3 := by
  induction l with
  | nil => rfl
  | cons n l ih => rw [encL, List.flatMap_cons, List.length_append]; change _ + (encL l).length = _; rw [ih]; simp [ndC]; omega
theorem encL_app (a b : List Nd) : encL (a ++ b) = encL a ++ encL b := by simp [encL]
theorem encL_at (l : List Nd) : ∀ i (h : i < l.length), (encL l)[i * 3]? = some (.string l[i].name) ∧ (encL l)[i * 3 + 1]? = some (.string l[i].text) ∧ (encL l)[i * 3 + 2]? = some (.int .i64 l[i].up) := by
  induction l with
  | nil => intro i h; simp at h
  | cons n l ih =>
    intro i h
    have e : encL (n :: l) = ndC n ++ encL l := by simp [encL]
    cases i with
    | zero => rw [e]; simp [ndC]
    | succ i =>
      have := ih i (by simpa using h)
      have k0 : (i + 1) * 3 = (ndC n).length + i * 3 := by simp [ndC]; omega
      rw [e, k0]
      rw [List.getElem?_append_right (by omega), List.getElem?_append_right (by omega), List.getElem?_append_right (by omega)]
      simp only [List.getElem_cons_succ, Nat.add_sub_cancel_left, Nat.add_assoc]
      exact this
theorem add_zero (g j : Nat) : (⟨g, 0, none⟩ : Addr).add j = ⟨g, j, none⟩ := by unfold Addr.add; split <;> simp_all
/-- A row of nodes of the call's own. -/
def NOwn (w : World) (B : Nat) (v : Value) (l : List Nd) : Prop := w.ownsRow B 51 3 v l.length (encL l)
theorem NOwn.shape {w : World} {B : Nat} {v : Value} {l : List Nd} (h : NOwn w B v l) (hl : l ≠ []) :
    ∃ g cap, v = .slice (some ⟨g, 0, none⟩) l.length cap ∧ l.length ≤ cap ∧ cap ≤ maxLen ∧ B ≤ g ∧ g < w.heap.size ∧ NAt w g l ∧ Blk w g (3 * l.length) := by
  have h' : w.ownsRow B 51 3 v l.length (encL l) := h
  rcases h'.2 with ⟨_, h0⟩ | ⟨g, cap, cur, hv, hb, hh, hle, hm, hs, ht⟩
  · exact absurd (List.length_eq_zero_iff.1 h0) hl
  · subst hv
    have C : ∀ j u, (encL l)[j]? = some u → w.cell? ⟨g, j, none⟩ = some u := fun j u hu => by have := h'.cells (g := g) rfl j u hu; rwa [add_zero] at this
    refine ⟨g, cap, rfl, hle, hm, hb, (Array.getElem?_eq_some_iff.1 hh).1, ⟨fun i hi => C _ _ (encL_at l i hi).1, fun i hi => C _ _ (encL_at l i hi).2.1, fun i hi => C _ _ (encL_at l i hi).2.2⟩, ?_, ?_⟩
    · intro j hj
      have : j < (encL l).length := by rw [encL_len]; omega
      exact ⟨_, C j _ (List.getElem?_eq_getElem this)⟩
    · intro j
      unfold World.frozen?
      simp [hh]

theorem extract_one (s : ByteArray) (k : Nat) (h : k < s.size) : s.extract k (k + 1) = ba [s[k]] := by
  apply ba_eq
  rw [ba_list, Lib.extract_data, drop_cons s k h]
  simp [show k + 1 - k = 1 by omega]
theorem extract_run (s : ByteArray) (k : Nat) : s.extract k (k + pe (s.data.toList.drop k)) = ba ((s.data.toList.drop k).takeWhile plB) := by
  apply ba_eq
  rw [ba_list, Lib.extract_data, Nat.add_sub_cancel_left, pe, ← takeWhile_take]
theorem NOwn.below {w w1 : World} {B : Nat} {v : Value} {l : List Nd} (h : NOwn w B v l) (hb : Below w.heap.size w w1) : NOwn w1 B v l :=
  World.ownsRow.kept (row := none) h ⟨hb.os, hb.tape, hb.output, hb.size, fun k hk _ => hb.block k hk⟩ (by cases v.ownBlock <;> simp)
theorem out_ne (s : ByteArray) (k : Nat) : (P s k).out ≠ [] := by
  have h : pin.l <+: (P s k).out := feed_pre_out _ _
  intro e
  rw [e] at h
  have := h.length_le
  simp [pin] at this
theorem up_op {s : ByteArray} {k : Nat} (h : k < s.size) (ho : opB s[k] = true) : (P s (k + 1)).up = ((P s k).out.length : Int) := by rw [P_succ s k h, pst_op _ ho]; rfl
theorem out_op {s : ByteArray} {k : Nat} (h : k < s.size) (ho : opB s[k] = true) : (P s (k + 1)).out = (P s k).out ++ [⟨s.extract k (k + 1), ⟨#[]⟩, (P s k).up⟩] ∧ (P s (k + 1)).r = [] := by
  rw [P_succ s k h, pst_op _ ho, out_nil _ rfl, extract_one s k h]; exact ⟨rfl, rfl⟩
theorem out_en {s : ByteArray} {k : Nat} (h : k < s.size) (ho : enB s[k] = true) : (P s (k + 1)).out = (P s k).out ∧ (P s (k + 1)).r = [] := by
  rw [P_succ s k h, pst_en _ ho, out_nil _ rfl]; exact ⟨rfl, rfl⟩
theorem up_en {s : ByteArray} {k : Nat} (h : k < s.size) (ho : enB s[k] = true) (hd : doc s.data.toList = true) : ∃ o : Nat, (P s k).up = (o : Int) ∧ ∃ hl : o < (P s k).out.length, (P s k).out[o].up = (P s (k + 1)).up := by
  obtain ⟨hc, hn⟩ := P_ok s hd k (by omega)
  have h2 := (dep_bd s hd (k + 1) (by omega)).1
  rw [dep_succ s k h, show dl s[k] = -1 by simp [dl, op_of_en ho, ho]] at h2
  rw [P_succ s k h, pst_en _ ho]
  match hst : (P s k).st, hc, hn with
  | [o], hc, hn => simp at hn; omega
  | o :: o' :: r, hc, hn =>
    have hc' := hc.mono (l_out (P s k))
    obtain ⟨⟨n, hn, hu⟩, _, _⟩ := hc'
    obtain ⟨hl, e⟩ := List.getElem?_eq_some_iff.1 hn
    refine ⟨o, by simp [PS.up, hst], hl, ?_⟩
    rw [e, hu]; simp [PS.up]
  | [], hc, hn => exact hc.elim
theorem out_pl {s : ByteArray} {k : Nat} (h : k < s.size) (ho : plB s[k] = true) (hr : (P s k).r = []) :
    (P s (k + pe (s.data.toList.drop k))).out = (P s k).out ++ [⟨⟨#[]⟩, s.extract k (k + pe (s.data.toList.drop k)), (P s k).up⟩] ∧ (P s (k + pe (s.data.toList.drop k))).up = (P s k).up := by
  have hne : (s.data.toList.drop k).takeWhile plB ≠ [] := by
    rw [drop_cons s k h, List.takeWhile_cons, if_pos ho]; simp
  rw [extract_run, P_run s k hr]
  refine ⟨?_, rfl⟩
  simp only [PS.out, if_neg hne, hr, if_pos]
  rfl
theorem off_no {c : UInt8} {p : Prop} (h : p ∨ plB c = false) (hp : plB c = true) : p := by rcases h with h | h; exact h; rw [hp] at h; cases h
theorem row_app {w : World} {B : Nat} {v : Value} {a b : List Nd} {n : Nd} (h : w.ownsRow B 51 3 v (a.length + 1) (encL a ++ ndC n)) (e : b = a ++ [n]) : NOwn w B v b := by
  subst e
  unfold NOwn
  rw [encL_app, List.length_append]
  exact h

/-- What is known in the rounds of TreeOf. -/
structure TAt (s : ByteArray) (w : World) (v : Value) (k : Nat) (wr : World) : Prop where
  hk : k ≤ s.size
  own : NOwn wr w.heap.size v (P s k).out
  below : Below w.heap.size w wr
  off : (P s k).r = [] ∨ ∀ h : k < s.size, plB s[k] = false
theorem new_row {w : World} {B : Nat} {l : List Nd} (hB : B ≤ w.heap.size) (n : Nd) (hl : l = [n]) : NOwn (w.alloc (.cells #[.string n.name, .string n.text, .int .i64 n.up] 51)) B (.slice (some ⟨w.heap.size, 0, none⟩) 1 1) l := by
  subst hl
  exact ⟨rfl, Or.inr ⟨w.heap.size, 1, #[.string n.name, .string n.text, .int .i64 n.up], rfl, hB, heap_alloc_new w _, Nat.le_refl _, by unfold maxLen; omega, rfl, rfl⟩⟩
theorem ok_at (s : ByteArray) (h : doc s.data.toList = true) (n : Nat) (hn : n < s.size) : okC s[n] = true := by
  unfold doc good at h
  simp only [Bool.and_eq_true] at h
  have h1 : allOk s.data.toList = true := h.1.1
  unfold allOk at h1
  have hm : s[n] ∈ s.data.toList := by
    have e := drop_cons s n hn
    have : s[n] ∈ s.data.toList.drop n := by rw [e]; simp
    exact List.mem_of_mem_drop this
  exact List.all_eq_true.1 h1 _ hm

theorem cells_three (w : World) (a b c : Value) (t : TypeId) : ∀ j u, [a, b, c][j]? = some u → (w.alloc (.cells #[a, b, c] t)).cell? ((⟨w.heap.size, 0, none⟩ : Addr).add j) = some u := by
  intro j u hu
  rw [add_zero, World.cell?_alloc_at _ _ _ _ rfl]
  match j, hu with
  | 0, hu => simpa using hu
  | 1, hu => simpa using hu
  | 2, hu => simpa using hu

end Go.Proofs.YtbmnciejaknonatDoor
