/- Texts of bytes below 128 as runes and back. -/
import Derived.Test.YtgacajnljplmiabDoorAppB
import Derived.Laws.Cover4
import Derived.Laws.IdiomStrings
set_option linter.unusedVariables false
namespace Go.Proofs.YtgacajnljplmiabDoor
open Go.RowKit
open Doc1

def asc (b : List UInt8) : Prop := ∀ c ∈ b, c.toNat < 128
def rvB (c : UInt8) : Value := .int .i32 (c.toNat : Int)
theorem decode_low (s : ByteArray) (i : Nat) (h : i < s.size) (hc : s[i].toNat < 128) : Utf8.decode s i = (s[i].toNat, 1) := by
  have e : (s.get! (i + 0)) = s[i] := by
    have hd : i < s.data.size := h
    show s.data[i + 0]! = s.data[i]
    rw [Nat.add_zero, getElem!_pos s.data i hd]
  unfold Utf8.decode
  simp only [e]
  rw [if_pos (by simpa using hc)]
theorem runes_low (s : ByteArray) (ha : asc s.data.toList) (n : Nat) : ∀ (i : Nat) (acc : Array Value), s.size - i = n → i ≤ s.size → Conv.runesFrom s n i acc = acc ++ ((s.data.toList.drop i).map rvB).toArray := by
  induction n with
  | zero =>
    intro i acc h1 h2
    rw [show s.data.toList.drop i = [] from drop_end s i (by omega)]
    simp [Conv.runesFrom]
  | succ n ih =>
    intro i acc h1 h2
    have hi : i < s.size := by omega
    have hc : s[i].toNat < 128 := ha _ (by
      have := drop_cons s i hi
      have : s[i] ∈ s.data.toList.drop i := by rw [this]; simp
      exact List.mem_of_mem_drop this)
    rw [Conv.runesFrom, if_pos hi, decode_low s i hi hc]
    show Conv.runesFrom s n (i + 1) (acc.push (.int .i32 (Int.ofNat s[i].toNat))) = _
    rw [ih (i + 1) _ (by omega) (by omega), drop_cons s i hi]
    apply Array.ext'
    simp [rvB]
theorem runes_all (s : ByteArray) (ha : asc s.data.toList) : Conv.runesFrom s s.size 0 #[] = (s.data.toList.map rvB).toArray := by
  rw [runes_low s ha s.size 0 #[] (by omega) (by omega)]
  simp
/-- A text made runes: a new block, and the draw of its room. -/
theorem conv_runes (w : World) (s : ByteArray) (ha : asc s.data.toList) (hs : s.size ≤ 100000) : ∃ c cap, (convert 9 180 (.string s)).run Tryd.prog w = .ok (.slice (some ⟨w.heap.size, 0, none⟩) s.size cap) (w.drew.alloc (.cells c 21)) ∧ (s.data.toList.map rvB) = c.toList.take s.size := by
  have h := run_runes_of_string (P := Tryd.prog) w 9 180 21 s Tryd.underlying9 Tryd.underlying180 Tryd.underlying21 (by rw [runes_all s ha, List.size_toArray, List.length_map, ← szB]; omega)
  have hz : (Conv.runesFrom s s.size 0 #[]).size = s.size := by rw [runes_all s ha]; simp
  rw [hz] at h
  refine ⟨_, _, h, ?_⟩
  rw [runes_all s ha]
  simp
/-- A row of runes of one's own. -/
def RnOwn (w : World) (B : Nat) (v : Value) (b : List UInt8) : Prop := w.ownsRow B 21 1 v b.length (b.map rvB)
theorem RnOwn.app {w : World} {B : Nat} {v : Value} {b c : List UInt8} (h : w.ownsRow B 21 1 v (b.length + c.length) (b.map rvB ++ c.map rvB)) : RnOwn w B v (b ++ c) := by
  unfold RnOwn
  rw [List.length_append, List.map_append]
  exact h
theorem encode_low (c : UInt8) (h : c.toNat < 128) : Utf8.encode ((c.toNat : Nat) : Int) = ⟨#[c]⟩ := by
  unfold Utf8.encode
  have hv : Utf8.valid (c.toNat : Int) = true := by unfold Utf8.valid; simp; omega
  simp only [hv, if_true, Int.toNat_natCast]
  rw [if_pos (by simpa using h)]
  simp
theorem runesBytes_low : ∀ (b : List UInt8) (s : ByteArray), asc b → ((b.map fun c => (c.toNat : Int)).foldl (fun r n => r ++ Utf8.encode n) s) = s ++ ⟨b.toArray⟩
  | [], s, _ => by apply Doc1.ba_eq; simp
  | c :: b, s, h => by
    rw [List.map_cons, List.foldl_cons, runesBytes_low b _ (fun x hx => h x (by simp [hx])), encode_low c (h c (by simp))]
    apply Doc1.ba_eq
    simp
theorem RnOwn.conv {w : World} {B : Nat} {v : Value} {b : List UInt8} (h : RnOwn w B v b) (ha : asc b) : (convert 180 9 v).run Tryd.prog w = .ok (.string ⟨b.toArray⟩) w := by
  unfold RnOwn at h
  rcases h.2 with ⟨rfl, h0⟩ | ⟨g, cap, cur, rfl, hb, hg, h1, h2, h3, h4⟩
  · rw [run_convert_runes_nil (P := Tryd.prog) w 180 9 21 _ _ Tryd.underlying180 Tryd.underlying21 Tryd.underlying9]
    have : b = [] := List.length_eq_zero_iff.1 h0
    subst this
    rfl
  · have hc : ∀ j, j < (b.map fun c => (c.toNat : Int)).length → w.cell? ((⟨g, 0, none⟩ : Addr).add j) = some (.int .i32 ((b.map fun c => (c.toNat : Int)).getD j 0)) := by
      intro j hj
      rw [List.length_map] at hj
      have e : cur.toList[j]? = some (rvB b[j]) := by
        have : (cur.toList.take (b.length * 1))[j]? = (b.map rvB)[j]? := by rw [h4]
        rw [List.getElem?_take, if_pos (by omega), List.getElem?_map, List.getElem?_eq_getElem hj] at this
        exact this
      have hadd : (⟨g, 0, none⟩ : Addr).add j = ⟨g, j, none⟩ := by unfold Addr.add; split <;> simp_all
      rw [hadd]
      unfold World.cell?
      rw [hg]
      simp only [List.getD_eq_getElem?_getD, List.getElem?_map, List.getElem?_eq_getElem hj]
      simpa [rvB] using e
    rw [run_convert_runes (P := Tryd.prog) w 180 9 21 ⟨g, 0, none⟩ b.length cap (b.map fun c => (c.toNat : Int)) (by simp) Tryd.underlying180 Tryd.underlying21 Tryd.underlying9 hc]
    rw [List.take_of_length_le (by simp)]
    unfold runesBytes
    rw [runesBytes_low b _ ha, show ByteArray.empty ++ (⟨b.toArray⟩ : ByteArray) = ⟨b.toArray⟩ from Doc1.ba_eq (by simp)]
end Go.Proofs.YtgacajnljplmiabDoor
