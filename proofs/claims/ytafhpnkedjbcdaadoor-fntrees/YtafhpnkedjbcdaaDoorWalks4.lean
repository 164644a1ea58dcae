/- The contracts of GoodDoc and DepthAt, of the model's and of the program's; their laws. -/
import Derived.Test.YtafhpnkedjbcdaaDoorWalks3
namespace Go.Proofs.YtafhpnkedjbcdaaDoor
open Go.RowKit
open Doc1

theorem hide {p : Prop} (h : p) : Hid p := h
theorem hid_eq {l : List Int} {L : List UInt8} {x y : Int} (h : Hid (l = dps L x)) (e : x = y) : Hid (l = dps L y) := by subst e; exact h
theorem size_len (s : ByteArray) : s.data.toList.length = s.size := by simp
theorem ret_tup {x y : Int} {a b : Bool} (h : x = y) (h2 : a = b) : Ending.returned (.tuple #[.int .i64 x, .bool a]) = .returned (.tuple #[.int .i64 y, .bool b]) := by rw [h, h2]

/-- A row that holds something is no nil slice. -/
theorem own_shape {w : World} {B : Nat} {v : Value} {n : Nat} {L : List Int} (h : w.ownsRow B 3 1 v (n + 1) (L.map (Value.int .i64))) (hL : L.length = n + 1) :
    ∃ g cap, v = .slice (some ⟨g, 0, none⟩) (n + 1) cap ∧ n + 1 ≤ cap ∧ cap ≤ maxLen ∧ ∀ j, j ≤ n → w.cell? ⟨g, j, none⟩ = some (.int .i64 (L.getD j 0)) := by
  have h' := h
  rcases h.2 with ⟨_, h0⟩ | ⟨g, cap, cur, hv, hb, hh, hle, hm, hs, ht⟩
  · omega
  · refine ⟨g, cap, hv, hle, hm, fun j hj => ?_⟩
    subst hv
    rw [h'.cellAt j (by omega)]
    rw [List.getElem?_map, List.getElem?_eq_getElem (by omega), List.getD_eq_getElem?_getD, List.getElem?_eq_getElem (by omega)]
    rfl

theorem depthsOf_yes (s : ByteArray) (w : World) (hs : s.size ≤ 1048576) (hT : Tab w) (hd : doc s.data.toList = true) :
    Calls Tryd.prog 58 #[.string s] w fun e w' => ∃ g cap, e = .returned (.tuple #[.slice (some ⟨g, 0, none⟩) (s.size + 1) cap, .bool true]) ∧ (s.size + 1 ≤ cap ∧ cap ≤ maxLen) ∧ Below w.heap.size w w' ∧
      ∀ j, j ≤ s.size → w'.cell? ⟨g, j, none⟩ = some (.int .i64 (dep s.data.toList j)) := by
  refine (depthsOf_any s w hs hT).mono fun e w' h => ?_
  obtain ⟨hb, ⟨_, v, rfl, hown⟩ | ⟨hn, _⟩⟩ := h
  · obtain ⟨g, cap, rfl, h1, h2, hc⟩ := own_shape hown (by rw [dps_len]; simp)
    exact ⟨g, cap, rfl, ⟨h1, h2⟩, hb, hc⟩
  · rw [hd] at hn; cases hn
theorem depthsOf_no (s : ByteArray) (w : World) (hs : s.size ≤ 1048576) (hT : Tab w) (hd : doc s.data.toList = false) :
    Calls Tryd.prog 58 #[.string s] w fun e w' => e = .returned (.tuple #[.slice none 0 0, .bool false]) ∧ Below w.heap.size w w' := by
  refine (depthsOf_any s w hs hT).mono fun e w' h => ?_
  obtain ⟨hb, ⟨hn, _⟩ | ⟨_, rfl⟩⟩ := h
  · rw [hd] at hn; cases hn
  · exact ⟨rfl, hb⟩

set_option maxHeartbeats 400000 in
theorem goodDocI_any (s : ByteArray) (w : World) (hs : s.size ≤ 1048576) (hT : Tab w) :
    Calls Tryd.prog 14 #[.string s] w fun e w' => e = .returned (.bool (doc s.data.toList)) ∧ Below w.heap.size w w' := by
  cases hd : doc s.data.toList with
  | true =>
    have H := depthsOf_yes s w hs hT hd
    clear hd hT
    go_enter Tryd.func14, Tryd.ntmps14
    go_wp2_with (go_at_call 58; refine H.mono ?_; rintro e w' ⟨g, cap, rfl, _, hb, _⟩)
    go_ret
    exact ⟨rfl, hb⟩
  | false =>
    have H := depthsOf_no s w hs hT hd
    clear hd hT
    go_enter Tryd.func14, Tryd.ntmps14
    go_wp2_with (go_at_call 58; refine H.mono ?_; rintro e w' ⟨rfl, hb⟩)
    go_ret
    exact ⟨rfl, hb⟩

set_option maxHeartbeats 400000 in
theorem l1In_any (n lo hi : Int) (w : World) :
    Calls Tryd.prog 62 #[.int .i64 n, .int .i64 lo, .int .i64 hi] w fun e w' => e = .returned (.bool (decide (lo ≤ n ∧ n ≤ hi))) ∧ w' = w := by
  go_enter Tryd.func62, Tryd.ntmps62
  go_wp2
  all_goals (go_ret; refine ⟨ret_bool ?_, rfl⟩; rw [Bool.eq_iff_iff]; simp; omega)

set_option maxHeartbeats 1000000 in
theorem depthAtI_any (s : ByteArray) (a : Int) (w : World) (hs : s.size ≤ 1048576) (hT : Tab w) :
    Calls Tryd.prog 16 #[.string s, .int .i64 a] w fun e w' => e = .returned (.tuple #[.int .i64 (depAt s.data.toList a).1, .bool (depAt s.data.toList a).2]) ∧ Below w.heap.size w w' := by
  by_cases hd : doc s.data.toList = true
  · have H := hide (depthsOf_yes s w hs hT hd)
    by_cases hr : 0 ≤ a ∧ a ≤ s.size
    · obtain ⟨n, rfl⟩ : ∃ n : Nat, a = n := ⟨a.toNat, by omega⟩
      rw [depAt_yes hd hr.1 (by rw [size_len]; exact hr.2)]
      have hn : n ≤ s.size := by omega
      clear hd hT hr
      go_enter Tryd.func16, Tryd.ntmps16
      go_wp2_with (go_at_call 58; refine (H.out).mono ?_; rintro e w' ⟨g, cap, rfl, hcap, hb, hc⟩; have hcn := hc n hn; clear hc)
      go_ret2
      exact ⟨rfl, hb⟩
    · rw [depAt_no (by rw [size_len]; omega)]
      have hr' : a < 0 ∨ (s.size : Int) < a := by omega
      clear hd hT hr
      rcases hr' with h | h
      all_goals
        go_enter Tryd.func16, Tryd.ntmps16
        go_wp2_with (go_at_call 58; refine (H.out).mono ?_; rintro e w' ⟨g, cap, rfl, hcap, hb, hc⟩; clear hc)
        go_ret2
        exact ⟨rfl, hb⟩
  · have H := hide (depthsOf_no s w hs hT (Bool.eq_false_iff.2 hd))
    rw [depAt_no (fun h => hd h.1)]
    clear hd hT
    go_enter Tryd.func16, Tryd.ntmps16
    go_wp2_with (go_at_call 58; refine (H.out).mono ?_; rintro e w' ⟨rfl, hb⟩)
    go_ret2
    exact ⟨rfl, hb⟩
end Go.Proofs.YtafhpnkedjbcdaaDoor
