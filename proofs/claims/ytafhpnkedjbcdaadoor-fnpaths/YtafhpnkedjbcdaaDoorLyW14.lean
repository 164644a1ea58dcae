/- The contract of impl.CutNode. -/
import Derived.Test.YtafhpnkedjbcdaaDoorLyW13
import Derived.Test.YtafhpnkedjbcdaaDoorTreeS3
import Derived.Deep.RegionHeld3
namespace Go.Proofs.YtafhpnkedjbcdaaDoor
open Go.RowKit
open Doc1

theorem treeI_doc (s : ByteArray) (w : World) (hT : Tab w) (hd : doc s.data.toList = true) :
    Calls Tryd.prog 27 #[.string s] w fun e w' => ∃ v, e = .returned (.tuple #[v, .bool true]) ∧ NOwn w' w.heap.size v (tree s.data.toList) ∧ Below w.heap.size w w' :=
  treeI_yes s w (by have := doc_size s hd; omega) hT hd
theorem cut_len {a : List UInt8} (h : doc a = true) : a.length ≤ 300 := by unfold doc good at h; simp only [Bool.and_eq_true, decide_eq_true_eq] at h; exact h.1.2
theorem NOwn.mono {w : World} {B B' : Nat} {v : Value} {l : List Nd} (h : NOwn w B v l) (hB : B' ≤ B) : NOwn w B' v l := own_mono h hB
/-- What CutNode answers. -/
def cutOk (l : List Nd) (k : Int) : Bool := decide (goodT l = true ∧ 1 ≤ k ∧ k < l.length)
def cutA (l : List Nd) (k : Int) : List Nd := if goodT l = true ∧ 1 ≤ k ∧ k < l.length then tree (match layL l with | some y => cutT y k.toNat | none => []) else []
def CutPost (l : List Nd) (k : Int) (w : World) (e : Ending) (w' : World) : Prop := ∃ v, e = .returned (.tuple #[v, .bool (cutOk l k)]) ∧ NOwn w' w.heap.size v (cutA l k) ∧ Below w.heap.size w w'
theorem addr_add (g off j : Nat) : (⟨g, off, none⟩ : Addr).add j = ⟨g, off + j, none⟩ := by unfold Addr.add; split <;> simp_all
/-- A text made of a part of a row of bytes. -/
theorem conv_part {w : World} {g cap n : Nat} {l : List UInt8} (hc : ∀ j (u : Value), (byt l)[j]? = some u → w.cell? ⟨g, j, none⟩ = some u) (off : Nat) (hn : off + n ≤ l.length) :
    (convert 22 9 (.slice (some ⟨g, off, none⟩) n cap)).run Tryd.prog w = .ok (.string (ba ((l.drop off).take n))) w := by
  have e : n = ((l.drop off).take n).length := by rw [List.length_take, List.length_drop]; omega
  have := run_convert_bytes_back w _ _ 5 ⟨g, off, none⟩ cap ((l.drop off).take n) Tryd.underlying22 Tryd.underlying5 Tryd.underlying9 (by
    intro j hj
    rw [addr_add]
    have hjl : off + j < l.length := by rw [List.length_take, List.length_drop] at hj; omega
    refine hc (off + j) _ ?_
    rw [byt, List.getElem?_map, List.getElem?_eq_getElem hjl, List.getElem_take, List.getElem_drop]; rfl)
  rw [← e] at this
  exact this

/-- A cell of a block just laid, later. -/
theorem new_later {w w' : World} {arr : Array Value} {t : TypeId} {j : Nat} {v : Value} (h : Below (w.alloc (.cells arr t)).drew.heap.size (w.alloc (.cells arr t)).drew w') (hj : arr[j]? = some v) : w'.cell? ⟨w.heap.size, j, none⟩ = some v := by
  refine (World.cell?_of_block (h.block w.heap.size (by show w.heap.size < (w.alloc _).heap.size; simp))).trans ?_
  show (w.alloc (.cells arr t)).cell? _ = _
  unfold World.cell?
  rw [heap_alloc_new]
  exact hj
theorem old_later {w w' : World} {o : Obj} {b j : Nat} {v : Value} (h : Below (w.alloc o).drew.heap.size (w.alloc o).drew w') (hb : b < w.heap.size) (hv : (w.alloc o).cell? ⟨b, j, none⟩ = some v) : w'.cell? ⟨b, j, none⟩ = some v :=
  (World.cell?_of_block (h.block b (by show b < (w.alloc o).heap.size; simp; omega))).trans hv
/-- What the region of CutNode reads. -/
def CutS (B g0 : Nat) (ot : Option Addr) (nt g1 g2 m F T x0 x1 x2 n0 n1 n2 : Nat) (A C : ByteArray) (w' : World) : Prop :=
  w'.cell? ⟨B, 0, none⟩ = some (.slice (some ⟨g0, 0, none⟩) n0 x0) ∧ w'.cell? ⟨B, 1, none⟩ = some (.slice (some ⟨g1, 0, none⟩) n1 x1) ∧ w'.cell? ⟨B, 2, none⟩ = some (.slice (some ⟨g2, 0, none⟩) n2 x2) ∧
    w'.cell? ⟨g1, m, none⟩ = some (.int .i64 (F : Int)) ∧ w'.cell? ⟨g2, m, none⟩ = some (.int .i64 (T : Int)) ∧ (∀ cap, (convert 22 9 (.slice (some ⟨g0, 0, none⟩) F cap)).run Tryd.prog w' = .ok (.string A) w') ∧
    (∀ cap, (convert 22 9 (.slice ot nt cap)).run Tryd.prog w' = .ok (.string C) w')

set_option maxRecDepth 100000 in
set_option maxHeartbeats 4000000 in
theorem cutI {w : World} {g cap : Nat} {l : List Nd} (k : Int) (h : Nin w g cap l) (hT : Tab w) :
    Calls Tryd.prog 42 #[.slice (some ⟨g, 0, none⟩) l.length cap, .int .i64 k] w (CutPost l k w) := by
  have A := hide (layOut_all h hT)
  have hsz := h.sz
  have hcp := h.cap
  clear h
  unfold CutPost cutA cutOk
  cases hl : layL l with
  | none =>
    rw [good_none hl]
    simp only [Bool.false_eq_true, false_and, if_false, decide_false]
    go_enter Tryd.func42, Tryd.ntmps42
    go_wp2_with fail
    refine A.out.mono ?_
    rintro e w1 ⟨hb, h1, -⟩
    obtain rfl := h1 hl
    unfold noLy
    go_wp2
    go_ret2
    exact ⟨_, rfl, World.ownsRow_nil _ _ _ _, hb.alloc hb.size _⟩
  | some y =>
    rw [good_some hl]
    simp only [true_and]
    have hL := laid_of hl
    by_cases hk : 1 ≤ k ∧ k < l.length
    · rw [if_pos hk, decide_eq_true hk]
      obtain ⟨m, rfl⟩ : ∃ m : Nat, k = m := ⟨k.toNat, by omega⟩
      have hm : m < l.length := by omega
      have hm0 : 0 < m := by omega
      rw [Int.toNat_natCast]
      obtain ⟨e1, e2⟩ := hL.seg m hm
      have hnf := hL.nf
      have hnt := hL.nt
      have hfr : y.fr.getD m 0 = y.fr[m]'(by omega) := by rw [List.getD_eq_getElem?_getD, List.getElem?_eq_getElem (by omega)]; rfl
      have hto : y.to.getD m 0 = y.to[m]'(by omega) := by rw [List.getD_eq_getElem?_getD, List.getElem?_eq_getElem (by omega)]; rfl
      have htx : y.text.length ≤ 300 := by
        have hg := good_fl hL.good
        rw [hL.text]; exact hg
      have hcd := cut_doc hl hm0 hm
      obtain ⟨F, hF⟩ : ∃ F, F = y.fr.getD m 0 := ⟨_, rfl⟩
      obtain ⟨T, hT'⟩ : ∃ T, T = y.to.getD m 0 := ⟨_, rfl⟩
      have hcut : cutT y m = (y.text.drop 0).take F ++ (y.text.drop T).take (y.text.length - T) := by
        unfold cutT
        rw [← hF, ← hT', List.drop_zero]
        congr 1
        exact (List.take_of_length_le (by rw [List.length_drop]; omega)).symm
      obtain ⟨P1, hP1⟩ : ∃ P1, P1 = (y.text.drop 0).take F := ⟨_, rfl⟩
      obtain ⟨P2, hP2⟩ : ∃ P2, P2 = (y.text.drop T).take (y.text.length - T) := ⟨_, rfl⟩
      rw [hcut, ← hP1, ← hP2] at hcd ⊢
      clear hcut
      go_enter Tryd.func42, Tryd.ntmps42
      go_wp2_with fail
      refine A.out.mono ?_
      rintro e w1 ⟨hb, -, h2⟩
      obtain ⟨p0, x0, p1, x1, p2, x2, p3, x3, rfl, o0, o1, o2, q0, q1, q2⟩ := h2 y hl
      obtain ⟨g1, c1, hv1, -, -, -, -, hc1⟩ := own_open o1 (by omega)
      obtain ⟨g2, c2, hv2, -, -, -, -, hc2⟩ := own_open o2 (by omega)
      cases hv1
      cases hv2
      have r1 : w1.cell? ⟨g1, m, none⟩ = some (.int .i64 (y.fr.getD m 0 : Int)) := hc1 m _ (by rw [ints, natI, List.getElem?_map, List.getElem?_map, List.getElem?_eq_getElem (by omega), hfr]; rfl)
      have r2 : w1.cell? ⟨g2, m, none⟩ = some (.int .i64 (y.to.getD m 0 : Int)) := hc2 m _ (by rw [ints, natI, List.getElem?_map, List.getElem?_map, List.getElem?_eq_getElem (by omega), hto]; rfl)
      have s1 : ∀ o, (w1.alloc o).cell? ⟨g1, m, none⟩ = some (.int .i64 (y.fr.getD m 0 : Int)) := fun o => (World.cell?_of_block (Below.heap_alloc w1 o _ (World.block_lt_of_cell? w1 _ r1))).trans r1
      have s2 : ∀ o, (w1.alloc o).cell? ⟨g2, m, none⟩ = some (.int .i64 (y.to.getD m 0 : Int)) := fun o => (World.cell?_of_block (Below.heap_alloc w1 o _ (World.block_lt_of_cell? w1 _ r2))).trans r2
      have m1 : (m : Int) < (y.fr.length : Int) := by omega
      have m2 : (m : Int) < (y.to.length : Int) := by omega
      have m0 : (0 : Int) ≤ (m : Int) := by omega
      have m3 : (m : Int) < (l.length : Int) := by omega
      -- the text's own row is not empty: what is cut is within
      have hpos : 0 < y.text.length := by
        have hw := lay_within hl m hm0 hm
        have hne : 0 < (fl l m).length := by
          rw [fl_eq]
          rcases hw with ⟨a, -⟩ | ⟨-, a⟩
          · obtain ⟨c, hc, -⟩ := nm_of a
            have : nmL l m = [c] := hc
            rw [this]; simp
          · unfold isRn at a
            simp only [Bool.and_eq_true, Bool.not_eq_true', List.isEmpty_eq_false_iff] at a
            have : txL l m ≠ [] := a.1.1
            have := List.length_pos_iff.2 this
            simp only [List.length_append]; omega
        omega
      obtain ⟨g0, c0, hv0, -, -, -, hg0, hc0⟩ := own_open o0 hpos
      cases hv0
      rw [← hF] at s1 e1
      rw [← hT'] at s2 e1 e2
      have hFT : F ≤ T := by omega
      clear o1 o2 hc1 hc2 hfr hto hF hT'
      have cz : ∀ (o : Obj) (w' : World), Below (w1.alloc o).drew.heap.size (w1.alloc o).drew w' → ∀ j (u : Value), (byt y.text)[j]? = some u → w'.cell? ⟨g0, j, none⟩ = some u := fun o w' hw j u hu =>
        (World.cell?_of_block (hw.block g0 (by show g0 < (w1.alloc o).heap.size; simp; omega))).trans ((World.cell?_of_block (Below.heap_alloc w1 o _ hg0)).trans (hc0 j u hu))
      have v1 : ∀ (o : Obj) (w' : World), Below (w1.alloc o).drew.heap.size (w1.alloc o).drew w' → ∀ cap, (convert 22 9 (.slice (some ⟨g0, 0, none⟩) F cap)).run Tryd.prog w' = .ok (.string (ba ((y.text.drop 0).take F))) w' := fun o w' hw cap => conv_part (cap := cap) (n := F) (cz o w' hw) 0 (by omega)
      have v2 : ∀ (o : Obj) (w' : World), Below (w1.alloc o).drew.heap.size (w1.alloc o).drew w' → ∀ cap, (convert 22 9 (.slice (if x0 = T then some ⟨g0, 0, none⟩ else some ⟨g0, T, none⟩) (y.text.length - T) cap)).run Tryd.prog w' = .ok (.string (ba ((y.text.drop T).take (y.text.length - T)))) w' := fun o w' hw cap => by
        split
        · rename_i hx
          have h0 : y.text.length - T = 0 := by omega
          rw [h0]
          have := conv_part (cap := cap) (n := 0) (cz o w' hw) 0 (by omega)
          simpa using this
        · exact conv_part (cap := cap) (n := y.text.length - T) (cz o w' hw) T (by omega)
      clear cz hc0 o0
      have hb0 := ba_size
      rw [← hP1] at v1
      rw [← hP2] at v2
      clear hP1 hP2
      have u1 : (T : Int) ≤ (y.text.length : Int) := by omega
      have u0 : (0 : Int) ≤ (T : Int) := by omega
      have u2 : (F : Int) ≤ (x0 : Int) := by omega
      have u3 : (y.text.length : Int) ≤ (x0 : Int) := by omega
      have u4 : (0 : Int) ≤ (F : Int) := by omega
      have hT1 := fun o => Tab.below (w1 := (w1.alloc o).drew) hT (hb.alloc hb.size o).drew
      have TR := hide (fun w' h => treeI_doc (ba P1 ++ ba P2) w' h (by rw [ba_app, ba_list]; exact hcd))
      have hPl : P1.length + P2.length ≤ 300 := by have := cut_len hcd; simpa using this
      have hPn : ¬ (9223372036854775807 < P1.length + P2.length) := by omega
      clear e1 e2
      have lt1 := World.block_lt_of_cell? w1 _ r1
      have lt2 := World.block_lt_of_cell? w1 _ r2
      by_cases hx : x0 = T
      · simp only [if_pos hx] at v2
        replace hx := hx.symm
        subst hx
        have hz : y.text.length - T = 0 := by omega
        simp only [hz] at v2
        clear hz
        -- what the region reads, in whatever world comes behind the box
        have KK := hide (fun (arr : Array Value) (t : TypeId) (q0 : arr[0]? = some (.slice (some ⟨g0, 0, none⟩) y.text.length T)) (q1 : arr[1]? = some (.slice (some ⟨g1, 0, none⟩) l.length x1)) (q2 : arr[2]? = some (.slice (some ⟨g2, 0, none⟩) l.length x2)) (w' : World) (hw : Below (w1.alloc (.cells arr t)).drew.heap.size (w1.alloc (.cells arr t)).drew w') =>
          (⟨new_later hw q0, new_later hw q1, new_later hw q2, old_later hw lt1 (s1 _), old_later hw lt2 (s2 _), v1 _ _ hw, v2 _ _ hw⟩ : CutS w1.heap.size g0 (some ⟨g0, 0, none⟩) 0 g1 g2 m F T T x1 x2 y.text.length l.length l.length (ba P1) (ba P2) w'))
        clear s1 s2 v1 v2 r1 r2
        unfold CutS at KK
        go_wp2_with fail
        go_region_held3 (fun w' => w'.cell? ⟨w1.heap.size, 0, none⟩ = some (.slice (some ⟨g0, 0, none⟩) y.text.length T) ∧ w'.cell? ⟨w1.heap.size, 1, none⟩ = some (.slice (some ⟨g1, 0, none⟩) l.length x1) ∧ w'.cell? ⟨w1.heap.size, 2, none⟩ = some (.slice (some ⟨g2, 0, none⟩) l.length x2) ∧
            w'.cell? ⟨g1, m, none⟩ = some (.int .i64 (F : Int)) ∧ w'.cell? ⟨g2, m, none⟩ = some (.int .i64 (T : Int)) ∧ (∀ cap, (convert 22 9 (.slice (some ⟨g0, 0, none⟩) F cap)).run Tryd.prog w' = .ok (.string (ba P1)) w') ∧
            (∀ cap, (convert 22 9 (.slice (some ⟨g0, 0, none⟩) 0 cap)).run Tryd.prog w' = .ok (.string (ba P2)) w'))
          (first | assumption | exact KK.out _ _ rfl rfl rfl _ (Below.refl _ _) | exact KK.out _ _ rfl rfl rfl _ hb2)
          ((go_at_call 27; refine (TR.out _ (hT1 _)).mono ?_; rintro e w2 ⟨v2, rfl, o2, hb2⟩))
        all_goals
          go_wp2
          go_ret2
          have ha := fun o => (hb.alloc hb.size o).drew
          rw [ba_app, ba_list] at o2
          exact ⟨v2, rfl, NOwn.mono o2 (ha _).size, (ha _).trans (hb2.mono (ha _).size)⟩
      · simp only [if_neg hx] at v2
        -- what the region reads, in whatever world comes behind the box
        have KK := hide (fun (arr : Array Value) (t : TypeId) (q0 : arr[0]? = some (.slice (some ⟨g0, 0, none⟩) y.text.length x0)) (q1 : arr[1]? = some (.slice (some ⟨g1, 0, none⟩) l.length x1)) (q2 : arr[2]? = some (.slice (some ⟨g2, 0, none⟩) l.length x2)) (w' : World) (hw : Below (w1.alloc (.cells arr t)).drew.heap.size (w1.alloc (.cells arr t)).drew w') =>
          (⟨new_later hw q0, new_later hw q1, new_later hw q2, old_later hw lt1 (s1 _), old_later hw lt2 (s2 _), v1 _ _ hw, v2 _ _ hw⟩ : CutS w1.heap.size g0 (some ⟨g0, T, none⟩) (y.text.length - T) g1 g2 m F T x0 x1 x2 y.text.length l.length l.length (ba P1) (ba P2) w'))
        clear s1 s2 v1 v2 r1 r2
        unfold CutS at KK
        go_wp2_with fail
        go_region_held3 (fun w' => w'.cell? ⟨w1.heap.size, 0, none⟩ = some (.slice (some ⟨g0, 0, none⟩) y.text.length x0) ∧ w'.cell? ⟨w1.heap.size, 1, none⟩ = some (.slice (some ⟨g1, 0, none⟩) l.length x1) ∧ w'.cell? ⟨w1.heap.size, 2, none⟩ = some (.slice (some ⟨g2, 0, none⟩) l.length x2) ∧
            w'.cell? ⟨g1, m, none⟩ = some (.int .i64 (F : Int)) ∧ w'.cell? ⟨g2, m, none⟩ = some (.int .i64 (T : Int)) ∧ (∀ cap, (convert 22 9 (.slice (some ⟨g0, 0, none⟩) F cap)).run Tryd.prog w' = .ok (.string (ba P1)) w') ∧
            (∀ cap, (convert 22 9 (.slice (some ⟨g0, T, none⟩) (y.text.length - T) cap)).run Tryd.prog w' = .ok (.string (ba P2)) w'))
          (first | assumption | exact KK.out _ _ rfl rfl rfl _ (Below.refl _ _) | exact KK.out _ _ rfl rfl rfl _ hb2)
          ((go_at_call 27; refine (TR.out _ (hT1 _)).mono ?_; rintro e w2 ⟨v2, rfl, o2, hb2⟩))
        all_goals
          go_wp2
          go_ret2
          have ha := fun o => (hb.alloc hb.size o).drew
          rw [ba_app, ba_list] at o2
          exact ⟨v2, rfl, NOwn.mono o2 (ha _).size, (ha _).trans (hb2.mono (ha _).size)⟩
    · rw [if_neg hk, decide_eq_false hk]
      go_enter Tryd.func42, Tryd.ntmps42
      go_wp2_with fail
      refine A.out.mono ?_
      rintro e w1 ⟨hb, -, h2⟩
      obtain ⟨p0, x0, p1, x1, p2, x2, p3, x3, rfl, -⟩ := h2 y hl
      by_cases hk0 : k < 1
      · go_wp2
        go_ret2
        exact ⟨_, rfl, World.ownsRow_nil _ _ _ _, hb.alloc hb.size _⟩
      · have hk1 : (l.length : Int) ≤ k := by omega
        go_wp2
        go_ret2
        exact ⟨_, rfl, World.ownsRow_nil _ _ _ _, hb.alloc hb.size _⟩
end Go.Proofs.YtafhpnkedjbcdaaDoor
