/- Rows of clients that are new, in the laws: comparisons, marks. Meetings of them. -/
import Derived.Test.YtkjioadmebkaoaaDoorEntM
import Derived.Deep.RegionWith
set_option linter.unusedVariables false
namespace Go.Proofs.YtkjioadmebkaoaaDoor
open Go.RowKit
open Doc1

/-- The cells of a row of new clients. -/
def oN (s : ByteArray) (j : Nat) : Value :=
  if j % 8 = 0 then .int .i64 ((j / 8 : Nat) : Int) else if j % 8 = 1 then .string s else if j % 8 = 2 then .int .i64 0 else if j % 8 = 3 then .int .i64 0 else if j % 8 = 4 then .bool false else if j % 8 = 7 then .bool false else .slice none 0 0
/-- The same, marked from K on. -/
def mkq (K : Nat) (j : Nat) : Value :=
  if j % 8 = 0 then .int .i64 ((K + 6 * (j / 8) : Nat) : Int) else if j % 8 = 1 then .string (mkT (K + 6 * (j / 8) + 1)) else if j % 8 = 2 then .int .i64 ((K + 6 * (j / 8) + 2 : Nat) : Int) else if j % 8 = 3 then .int .i64 ((K + 6 * (j / 8) + 3 : Nat) : Int) else if j % 8 = 4 then .bool (decide ((K + 6 * (j / 8) + 4) % 3 = 0)) else if j % 8 = 7 then .bool (decide ((K + 6 * (j / 8) + 5) % 3 = 0)) else .slice none 0 0
theorem oN_at (s : ByteArray) (i : Nat) : oN s (i * 8) = .int .i64 (i : Int) ∧ oN s (i * 8 + 1) = .string s ∧ oN s (i * 8 + 2) = .int .i64 0 ∧ oN s (i * 8 + 3) = .int .i64 0 ∧ oN s (i * 8 + 4) = .bool false ∧ oN s (i * 8 + 5) = .slice none 0 0 ∧ oN s (i * 8 + 6) = .slice none 0 0 ∧ oN s (i * 8 + 7) = .bool false := by
  have h : ∀ r, r < 8 → (i * 8 + r) % 8 = r ∧ (i * 8 + r) / 8 = i := fun r hr => ⟨by omega, by omega⟩
  have h0 := h 0 (by omega)
  rw [Nat.add_zero] at h0
  unfold oN
  simp only [h0, h 1 (by omega), h 2 (by omega), h 3 (by omega), h 4 (by omega), h 5 (by omega), h 6 (by omega), h 7 (by omega)]
  simp
theorem mkq_at (K i : Nat) {X : Nat} (hX : X = K + 6 * i) : mkq K (i * 8) = .int .i64 (X : Int) ∧ mkq K (i * 8 + 1) = .string (mkT (X + 1)) ∧ mkq K (i * 8 + 2) = .int .i64 ((X + 2 : Nat) : Int) ∧ mkq K (i * 8 + 3) = .int .i64 ((X + 3 : Nat) : Int) ∧ mkq K (i * 8 + 4) = .bool (decide ((X + 4) % 3 = 0)) ∧ mkq K (i * 8 + 5) = .slice none 0 0 ∧ mkq K (i * 8 + 6) = .slice none 0 0 ∧ mkq K (i * 8 + 7) = .bool (decide ((X + 5) % 3 = 0)) := by
  subst hX
  have h : ∀ r, r < 8 → (i * 8 + r) % 8 = r ∧ (i * 8 + r) / 8 = i := fun r hr => ⟨by omega, by omega⟩
  have h0 := h 0 (by omega)
  rw [Nat.add_zero] at h0
  unfold mkq
  simp only [h0, h 1 (by omega), h 2 (by omega), h 3 (by omega), h 4 (by omega), h 5 (by omega), h 6 (by omega), h 7 (by omega)]
  simp
/-- A block whose first cells are told by a function. -/
structure FC (w : World) (g n : Nat) (f : Nat → Value) : Prop where
  lt : g < w.heap.size
  fz : ∀ j, w.frozen? ⟨g, j, none⟩ = false
  c : ∀ j, j < n → w.cell? ⟨g, j, none⟩ = some (f j)
theorem FC.block {w w1 : World} {g n : Nat} {f : Nat → Value} (h : FC w g n f) (hs : w.heap.size ≤ w1.heap.size) (e : w1.heap[g]? = w.heap[g]?) : FC w1 g n f :=
  ⟨Nat.lt_of_lt_of_le h.lt hs, fun j => by rw [World.frozen?_of_block (a := ⟨g, j, none⟩) e]; exact h.fz j, fun j hj => (World.cell?_of_block (a := ⟨g, j, none⟩) e).trans (h.c j hj)⟩
theorem FC.later {w w1 : World} {g n : Nat} {f : Nat → Value} (h : FC w g n f) (hb : Below w.heap.size w w1) : FC w1 g n f := h.block hb.size (hb.block g h.lt)
theorem FC.put {w : World} {g n m : Nat} {f f' : Nat → Value} (h : FC w g n f) (hm : m < n) (v : Value) (h1 : f' m = v) (h2 : ∀ j, j < n → j ≠ m → f' j = f j) : FC (w.setCell ⟨g, m, none⟩ v) g n f' where
  lt := by simpa [World.setCell] using h.lt
  fz := fun j => by rw [World.frozen?_setCell]; exact h.fz j
  c := fun j hj => by
    by_cases e : j = m
    · subst e
      rw [World.cell?_setCell_same _ _ _ (h.c j hj), h1]
    · rw [World.cell?_setCell_other _ _ _ _ (fun c => e (Addr.mk.inj c).2.1.symm), h2 j hj e]
      exact h.c j hj
theorem out_set {S : Nat → Prop} {w : World} {g : Nat} (h : S g) (j : Nat) (v : Value) : Out S w (w.setCell ⟨g, j, none⟩ v) :=
  ⟨rfl, rfl, rfl, by simp [World.setCell], fun k _ hn => Below.heap_setCell _ _ _ _ (by show k ≠ g; exact fun c => hn (c ▸ h))⟩
/-- The first m cells are marked. -/
def fM (K : Nat) (s : ByteArray) (m : Nat) : Nat → Value := fun j => if j < m then mkq K j else oN s j
theorem FC.mark {w : World} {g n m K : Nat} {s : ByteArray} (h : FC w g n (fM K s m)) (hm : m < n) (v : Value) (hv : mkq K m = v) : FC (w.setCell ⟨g, m, none⟩ v) g n (fM K s (m + 1)) :=
  h.put hm v (by unfold fM; rw [if_pos (by omega)]; exact hv) (fun j hj hne => by unfold fM; by_cases c : j < m; rw [if_pos (by omega), if_pos c]; rw [if_neg (by omega), if_neg c])
theorem FC.skip {w : World} {g n m K : Nat} {s : ByteArray} (h : FC w g n (fM K s m)) (hv : mkq K m = oN s m) : FC w g n (fM K s (m + 1)) :=
  ⟨h.lt, h.fz, fun j hj => by
    rw [h.c j hj]
    unfold fM
    by_cases c : j < m
    · rw [if_pos c, if_pos (by omega)]
    · by_cases e : j = m
      · subst e; rw [if_neg c, if_pos (by omega), hv]
      · rw [if_neg c, if_neg (by omega)]⟩
theorem FC.un {w : World} {g n m K : Nat} {s : ByteArray} (h : FC w g n (fM K s m)) {j : Nat} (hj : j < n) (hm : m ≤ j) : w.cell? ⟨g, j, none⟩ = some (oN s j) := by
  have := h.c j hj
  unfold fM at this
  rwa [if_neg (by omega)] at this

/-- A row of new clients that is read; its block is of lo to hi. -/
def NR (lo hi : Nat) (w : World) (v : Value) (s : ByteArray) (n : Nat) : Prop := (n = 0 ∧ ∃ a c, v = .slice a 0 c) ∨ ∃ g cap, v = .slice (some ⟨g, 0, none⟩) n cap ∧ 0 < n ∧ n ≤ cap ∧ cap ≤ maxLen ∧ lo ≤ g ∧ g < hi ∧ FC w g (n * 8) (oN s)
def NK (K lo hi : Nat) (w : World) (v : Value) (n : Nat) : Prop := (n = 0 ∧ ∃ a c, v = .slice a 0 c) ∨ ∃ g cap, v = .slice (some ⟨g, 0, none⟩) n cap ∧ 0 < n ∧ n ≤ cap ∧ cap ≤ maxLen ∧ lo ≤ g ∧ g < hi ∧ FC w g (n * 8) (mkq K)
theorem NR.shp {lo hi : Nat} {w : World} {v : Value} {s : ByteArray} {n : Nat} (h : NR lo hi w v s n) : ∃ a c, v = .slice a n c := by
  rcases h with ⟨rfl, a, c, rfl⟩ | ⟨g, c, rfl, -⟩
  · exact ⟨a, c, rfl⟩
  · exact ⟨_, c, rfl⟩
theorem NK.shp {K lo hi : Nat} {w : World} {v : Value} {n : Nat} (h : NK K lo hi w v n) : ∃ a c, v = .slice a n c := by
  rcases h with ⟨rfl, a, c, rfl⟩ | ⟨g, c, rfl, -⟩
  · exact ⟨a, c, rfl⟩
  · exact ⟨_, c, rfl⟩
theorem NR.later {lo hi : Nat} {w w1 : World} {v : Value} {s : ByteArray} {n : Nat} (h : NR lo hi w v s n) (hb : Below w.heap.size w w1) : NR lo hi w1 v s n :=
  h.imp id (fun ⟨g, c, e, h0, h1, h2, h3, h4, h5⟩ => ⟨g, c, e, h0, h1, h2, h3, h4, h5.later hb⟩)
theorem NK.later {K lo hi : Nat} {w w1 : World} {v : Value} {n : Nat} (h : NK K lo hi w v n) (hb : Below w.heap.size w w1) : NK K lo hi w1 v n :=
  h.imp id (fun ⟨g, c, e, h0, h1, h2, h3, h4, h5⟩ => ⟨g, c, e, h0, h1, h2, h3, h4, h5.later hb⟩)
theorem NR.out {lo hi a b : Nat} {w w1 : World} {v : Value} {s : ByteArray} {n : Nat} (h : NR lo hi w v s n) (ho : Out (Iv a b) w w1) (hd : hi ≤ a ∨ b ≤ lo) : NR lo hi w1 v s n :=
  h.imp id (fun ⟨g, c, e, h0, h1, h2, h3, h4, h5⟩ => ⟨g, c, e, h0, h1, h2, h3, h4, h5.block ho.size (ho.block g h5.lt (fun x => by have := x.1; have := x.2; omega))⟩)
theorem NK.out {K lo hi a b : Nat} {w w1 : World} {v : Value} {n : Nat} (h : NK K lo hi w v n) (ho : Out (Iv a b) w w1) (hd : hi ≤ a ∨ b ≤ lo) : NK K lo hi w1 v n :=
  h.imp id (fun ⟨g, c, e, h0, h1, h2, h3, h4, h5⟩ => ⟨g, c, e, h0, h1, h2, h3, h4, h5.block ho.size (ho.block g h5.lt (fun x => by have := x.1; have := x.2; omega))⟩)
theorem pr_none (w : World) : PR w (.slice none 0 0) [] := .inl ⟨rfl, none, 0, rfl, by unfold maxLen; omega⟩

set_option maxRecDepth 100000 in
set_option maxHeartbeats 2000000 in
theorem eqK0 (s : ByteArray) (i : Int) (w : World) :
    Calls Tryd.prog 169 #[.agg #[.int .i64 i, .string s, .int .i64 0, .int .i64 0, .bool false, .slice none 0 0, .slice none 0 0, .bool false], .agg #[.int .i64 i, .string s, .int .i64 0, .int .i64 0, .bool false, .slice none 0 0, .slice none 0 0, .bool false]] w fun e w' => e = .returned (.bool true) ∧ Below w.heap.size w w' := by
  have E : Hid (∀ w1 : World, Calls Tryd.prog 197 #[.slice none 0 0, .slice none 0 0] w1 fun e w' => e = .returned (.bool true) ∧ Below w1.heap.size w1 w') := hide (fun w1 => eqP_r (pr_none w1) (pr_none w1) (by simp))
  obtain ⟨w1, hw1⟩ : ∃ w1, w1 = (w.alloc (.cells #[.int .i64 i, .string s, .int .i64 0, .int .i64 0, .bool false, .slice none 0 0, .slice none 0 0, .bool false] 178)).alloc (.cells #[.int .i64 i, .string s, .int .i64 0, .int .i64 0, .bool false, .slice none 0 0, .slice none 0 0, .bool false] 178) := ⟨_, rfl⟩
  obtain ⟨k1, k2, k3, k4⟩ := cb_two w #[.int .i64 i, .string s, .int .i64 0, .int .i64 0, .bool false, .slice none 0 0, .slice none 0 0, .bool false] #[.int .i64 i, .string s, .int .i64 0, .int .i64 0, .bool false, .slice none 0 0, .slice none 0 0, .bool false] 178 178
  rw [← hw1] at k1 k2 k3 k4
  have HK1 := hide k1
  have HK2 := hide k2
  have HB := hide k3
  clear k1 k2 k3
  go_enter Tryd.func169, Tryd.ntmps169
  go_wp2_with fail
  rw [← hw1]
  clear hw1
  refine (E.out _).mono ?_
  rintro e w2 ⟨rfl, hb2⟩
  have q1 : w2.cell? ⟨w.heap.size, 6, none⟩ = some (.slice none 0 0) := (HK1.out.later hb2).cell 6 rfl
  have q2 : w2.cell? ⟨w.heap.size + 1, 6, none⟩ = some (.slice none 0 0) := (HK2.out.later hb2).cell 6 rfl
  have HL1 := hide (HK1.out.later hb2)
  have HL2 := hide (HK2.out.later hb2)
  have HB2 := hide (HB.out.trans (hb2.mono HB.out.size))
  clear hb2 HK1 HK2
  go_wp2_with fail
  refine (E.out _).mono ?_
  rintro e w3 ⟨rfl, hb3⟩
  have q3 : w3.cell? ⟨w.heap.size, 7, none⟩ = some (.bool false) := (HL1.out.later hb3).cell 7 rfl
  have q4 : w3.cell? ⟨w.heap.size + 1, 7, none⟩ = some (.bool false) := (HL2.out.later hb3).cell 7 rfl
  have HB3 := hide (HB2.out.trans (hb3.mono HB2.out.size))
  clear hb3 q1 q2
  go_wp2
  go_ret
  exact ⟨rfl, HB3.out⟩

set_option maxRecDepth 100000 in
set_option maxHeartbeats 2000000 in
theorem eqNS {lo hi lo' hi' : Nat} {w : World} {va vb : Value} {s : ByteArray} {n : Nat} (ha : NR lo hi w va s n) (hb : NR lo' hi' w vb s n) (hn : n ≤ 1000) :
    Calls Tryd.prog 121 #[va, vb] w fun e w' => e = .returned (.bool true) ∧ Below w.heap.size w w' := by
  rcases ha with ⟨rfl, a, c, rfl⟩ | ⟨ga, ca, rfl, h0, a1, a2, -, -, a3⟩
  · obtain ⟨ab, cb, rfl⟩ := hb.shp
    clear hb
    go_enter Tryd.func121, Tryd.ntmps121
    go_wp2
    go_loop [5] (fun i => i = .int .i64 0) (fun _ => 0)
    case atStart => rfl
    case round =>
      subst hrel
      go_wp2
      go_ret
      exact ⟨rfl, Below.refl _ _⟩
  · rcases hb with ⟨c, -⟩ | ⟨gb, cb, rfl, -, b1, b2, -, -, b3⟩
    · omega
    have HA := hide a3
    have HB := hide b3
    have E := hide (fun (k : Nat) (w' : World) => eqK0 s (k : Int) w')
    clear a3 b3
    go_enter Tryd.func121, Tryd.ntmps121
    go_wp2
    go_loopw [5] (fun i wr => ∃ k : Nat, k ≤ n ∧ i = .int .i64 k ∧ Below w.heap.size w wr) (fun i _ => n - (intOf i).toNat)
    case atStart => exact ⟨0, by omega, rfl, Below.refl _ _⟩
    case round =>
      obtain ⟨k, hk, rfl, hbel⟩ := hrel
      by_cases hlt : k < n
      · have hA := HA.out.later hbel
        have hB := HB.out.later hbel
        obtain ⟨o0, o1, o2, o3, o4, o5, o6, o7⟩ := oN_at s k
        have d0 := hA.c (k * 8) (by omega)
        have e0 := hB.c (k * 8) (by omega)
        rw [o0] at d0 e0
        have d1 := hA.c (k * 8 + 1) (by omega)
        have e1 := hB.c (k * 8 + 1) (by omega)
        rw [o1] at d1 e1
        have d2 := hA.c (k * 8 + 2) (by omega)
        have e2 := hB.c (k * 8 + 2) (by omega)
        rw [o2] at d2 e2
        have d3 := hA.c (k * 8 + 3) (by omega)
        have e3 := hB.c (k * 8 + 3) (by omega)
        rw [o3] at d3 e3
        have d4 := hA.c (k * 8 + 4) (by omega)
        have e4 := hB.c (k * 8 + 4) (by omega)
        rw [o4] at d4 e4
        have d5 := hA.c (k * 8 + 5) (by omega)
        have e5 := hB.c (k * 8 + 5) (by omega)
        rw [o5] at d5 e5
        have d6 := hA.c (k * 8 + 6) (by omega)
        have e6 := hB.c (k * 8 + 6) (by omega)
        rw [o6] at d6 e6
        have d7 := hA.c (k * 8 + 7) (by omega)
        have e7 := hB.c (k * 8 + 7) (by omega)
        rw [o7] at d7 e7
        clear hA hB o0 o1 o2 o3 o4 o5 o6 o7
        go_wp2_with fail
        go_region_with (go_at_call 169; refine (E.out k _).mono ?_; rintro e w' ⟨rfl, hb'⟩)
        all_goals
          go_wp2
          go_roundw
          case rel => exact ⟨k + 1, by omega, by go_num, hbel.trans ((Below.refl _ _).drew.trans (hb'.mono (show w.heap.size ≤ wr.drew.heap.size from hbel.size)))⟩
          case measure => simp [intOf]; omega
      · go_wp2
        go_ret
        exact ⟨rfl, hbel⟩

set_option maxRecDepth 100000 in
set_option maxHeartbeats 8000000 in
theorem markNS {lo hi : Nat} {w : World} {v : Value} {s : ByteArray} {n : Nat} (h : NR lo hi w v s n) (hn : n ≤ 1000) (K : Nat) (hK : 0 < K ∧ K ≤ 100000000) :
    Calls Tryd.prog 123 #[v, .int .i64 (K : Int)] w fun e w' => e = .returned (.int .i64 (K + 6 * n : Nat)) ∧ Out (Iv lo hi) w w' ∧ NK K lo hi w' v n := by
  rcases h with ⟨rfl, a, c, rfl⟩ | ⟨g, cap, rfl, h0, a1, a2, hlo, hhi, a3⟩
  · rw [Nat.mul_zero, Nat.add_zero]
    go_enter Tryd.func123, Tryd.ntmps123
    go_wp2
    go_loop [1, 5] (fun k i => k = .int .i64 (K : Int) ∧ i = .int .i64 0) (fun _ _ => 0)
    case atStart => exact ⟨rfl, rfl⟩
    case round =>
      obtain ⟨rfl, rfl⟩ := hrel
      go_wp2
      go_ret
      exact ⟨rfl, Out.refl _ _, .inl ⟨rfl, a, c, rfl⟩⟩
  · have T : Hid (∀ (K : Nat) w, 0 < K → K ≤ 1000000000 → Calls Tryd.prog 171 #[.int .i64 (K : Int)] w fun e w' => e = .returned (.string (mkT K)) ∧ Below w.heap.size w w') := hide (fun K w h1 h2 => markText_any K w h1 h2)
    have M0 := hide (fun (k : Int) (w : World) => markPartS_z none 0 k w)
    have H0 : Hid (FC w g (n * 8) (fM K s (0 * 8))) := hide ⟨a3.lt, a3.fz, fun j hj => by unfold fM; rw [if_neg (by omega)]; exact a3.c j hj⟩
    have HL : Hid (g < w.heap.size) := hide a3.lt
    clear a3
    go_enter Tryd.func123, Tryd.ntmps123
    go_wp2
    go_loopw [1, 5] (fun k1 i wr => ∃ k : Nat, k ≤ n ∧ i = .int .i64 k ∧ k1 = .int .i64 (K + 6 * k : Nat) ∧ Hid (FC wr g (n * 8) (fM K s (k * 8)) ∧ Out (Iv lo hi) w wr)) (fun _ i _ => n - (intOf i).toNat)
    case atStart => exact ⟨0, by omega, rfl, rfl, hide ⟨H0.out, Out.refl _ _⟩⟩
    case round =>
      obtain ⟨k, hk, rfl, rfl, HR⟩ := hrel
      by_cases hlt : k < n
      · obtain ⟨X, hX⟩ : ∃ X : Nat, X = K + 6 * k := ⟨_, rfl⟩
        rw [← hX]
        have hXm : X ≤ 200000000 ∧ 0 < X := by omega
        obtain ⟨m0, m1, m2, m3, m4, m5, m6, m7⟩ := mkq_at K k hX
        obtain ⟨o0, o1, o2, o3, o4, o5, o6, o7⟩ := oN_at s k
        obtain ⟨b4, hb4⟩ : ∃ b, decide ((X + 4) % 3 = 0) = b := ⟨_, rfl⟩
        obtain ⟨b7, hb7⟩ : ∃ b, decide ((X + 5) % 3 = 0) = b := ⟨_, rfl⟩
        have i4 : ((((X : Int) + 1 + 1 + 1 + 1) % 3) == 0) = b4 := by rw [← hb4]; apply Bool.eq_iff_iff.2; rw [beq_iff_eq, decide_eq_true_eq]; omega
        have i7 : ((((X : Int) + 1 + 1 + 1 + 1 + 1) % 3) == 0) = b7 := by rw [← hb7]; apply Bool.eq_iff_iff.2; rw [beq_iff_eq, decide_eq_true_eq]; omega
        rw [hb4] at m4
        rw [hb7] at m7
        have R0 := hide HR.out.1
        have O0 := hide HR.out.2
        have HX := hide hX
        have HM := hide (And.intro m1 (And.intro m2 (And.intro m3 (And.intro m4 (And.intro m5 (And.intro m6 m7))))))
        have HO := hide (And.intro o5 o6)
        have R1 : Hid (FC (wr.setCell ⟨g, k * 8, none⟩ (.int .i64 (X : Int))) g (n * 8) (fM K s (k * 8 + 1))) := hide (R0.out.mark (by omega) _ m0)
        obtain ⟨W1, hW1⟩ : ∃ W, W = wr.setCell ⟨g, k * 8, none⟩ (.int .i64 (X : Int)) := ⟨_, rfl⟩
        rw [← hW1] at R1
        have O1 : Hid (Out (Iv lo hi) w W1) := hide (by rw [hW1]; exact O0.out.trans (out_set (by exact ⟨hlo, hhi⟩) _ _))
        have f0 := R0.out.fz (k * 8)
        have y0 := R0.out.un (j := k * 8) (by omega) (Nat.le_refl _)
        rw [o0] at y0
        clear HR hX hb4 hb7 m0 m1 m2 m3 m4 m5 m6 m7 o0 o1 o2 o3 o4 o5 o6 o7 R0 O0
        go_wp2_with fail
        rw [← hW1]
        clear hW1 f0 y0
        rw [show (X : Int) + 1 = ((X + 1 : Nat) : Int) by omega]
        refine (T.out (X + 1) W1 (by omega) (by omega)).mono ?_
        rintro e x1 ⟨rfl, hb1⟩
        obtain ⟨o0, o1, o2, o3, o4, o5, o6, o7⟩ := oN_at s k
        have R1' := R1.out.later hb1
        have f1 := R1'.fz (k * 8 + 1)
        have y1 := R1'.un (j := k * 8 + 1) (by omega) (Nat.le_refl _)
        rw [o1] at y1
        have R2 := R1'.mark (by omega) _ HM.out.1
        have f2 := R2.fz (k * 8 + 1 + 1)
        have y2 := R2.un (j := k * 8 + 2) (by omega) (by omega)
        rw [o2] at y2
        have R3 := R2.mark (by omega) _ HM.out.2.1
        have f3 := R3.fz (k * 8 + 3)
        have y3 := R3.un (j := k * 8 + 3) (by omega) (by omega)
        rw [o3] at y3
        have R4 := R3.mark (by omega) _ HM.out.2.2.1
        have f4 := R4.fz (k * 8 + 4)
        have y4 := R4.un (j := k * 8 + 4) (by omega) (by omega)
        rw [o4] at y4
        have R5 := R4.mark (by omega) _ HM.out.2.2.2.1
        have y5 := R5.un (j := k * 8 + 5) (by omega) (by omega)
        rw [o5] at y5
        have y6 := R5.un (j := k * 8 + 6) (by omega) (by omega)
        rw [o6] at y6
        have y7 := R5.un (j := k * 8 + 7) (by omega) (by omega)
        rw [o7] at y7
        have f7 := R5.fz (k * 8 + 7)
        have R7 := (R5.skip (by rw [HM.out.2.2.2.2.1, o5])).skip (by rw [HM.out.2.2.2.2.2.1, o6])
        have R8 := hide (R7.mark (by omega) _ HM.out.2.2.2.2.2.2)
        have O8 := hide (((((O1.out.trans (Out.below hb1)).trans (out_set (show Iv lo hi g from ⟨hlo, hhi⟩) (k * 8 + 1) (.string (mkT (X + 1))))).trans (out_set (show Iv lo hi g from ⟨hlo, hhi⟩) (k * 8 + 2) (.int .i64 ((X + 2 : Nat) : Int)))).trans (out_set (show Iv lo hi g from ⟨hlo, hhi⟩) (k * 8 + 3) (.int .i64 ((X + 3 : Nat) : Int)))).trans ((out_set (show Iv lo hi g from ⟨hlo, hhi⟩) (k * 8 + 4) (.bool b4)).trans (out_set (show Iv lo hi g from ⟨hlo, hhi⟩) (k * 8 + 7) (.bool b7))))
        have e2 : ((X + 2 : Nat) : Int) = (X : Int) + 1 + 1 := by omega
        have e3 : ((X + 3 : Nat) : Int) = (X : Int) + 1 + 1 + 1 := by omega
        simp only [e2, e3] at f3 y3 f4 y4 y5 y6 y7 f7 R8 O8
        clear R1' R2 R3 R4 R5 R7 hb1 o0 o1 o2 o3 o4 o5 o6 o7 e2 e3
        go_wp2_with (go_at_call 172; refine (M0.out _ _).mono ?_; rintro e w' ⟨rfl, hw⟩; replace hw := hw.symm; subst hw)
        refine ⟨⟨k + 1, by omega, by go_num, by rw [HX.out]; congr 1 <;> omega, hide ⟨?_, ?_⟩⟩, by simp [intOf]; omega⟩
        · have := R8.out
          rw [show (k + 1) * 8 = k * 8 + 5 + 1 + 1 + 1 by omega]
          exact this
        · exact O8.out
      · obtain rfl : k = n := by omega
        go_wp2
        go_ret
        refine ⟨rfl, HR.out.2, .inr ⟨g, cap, rfl, h0, a1, a2, hlo, hhi, HR.out.1.lt, HR.out.1.fz, fun j hj => ?_⟩⟩
        have := HR.out.1.c j hj
        unfold fM at this
        rwa [if_pos (by omega)] at this
end Go.Proofs.YtkjioadmebkaoaaDoor
