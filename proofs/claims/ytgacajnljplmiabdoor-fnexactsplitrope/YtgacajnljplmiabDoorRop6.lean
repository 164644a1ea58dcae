/- The program's rows of pieces: added up, cut out of a text, read as a text. -/
import Derived.Test.YtgacajnljplmiabDoorRop5
import Derived.Test.YtgacajnljplmiabDoorAppB
set_option linter.unusedVariables false
namespace Go.Proofs.YtgacajnljplmiabDoor
open Go.RowKit
open Doc1

theorem Tryd.infoPiece : (Tryd.prog.info? 146).map (fun i => (i.zero, i.size, i.bytes)) = some (some (.string ⟨#[]⟩), 1, 16) := by kernel_rfl
def stC (l : List ByteArray) : List Value := l.map Value.string
/-- A row of pieces of one's own. -/
def PcOwn (w : World) (B : Nat) (v : Value) (l : List ByteArray) : Prop := w.ownsRow B 146 1 v l.length (stC l)
theorem PcOwn.app {w : World} {B : Nat} {v : Value} {l m : List ByteArray} (h : w.ownsRow B 146 1 v (l.length + m.length) (stC l ++ stC m)) : PcOwn w B v (l ++ m) := by
  unfold PcOwn
  rw [List.length_append]
  unfold stC at h ⊢
  rw [List.map_append]
  exact h
theorem PcOwn.nil (w : World) (B : Nat) : PcOwn w B (.slice none 0 0) [] := World.ownsRow_nil _ _ _ _
/-- A row of pieces that is read. -/
theorem PcOwn.at' {w : World} {B : Nat} {v : Value} {l : List ByteArray} (h : PcOwn w B v l) : ∃ a cap, v = .slice a l.length cap ∧ l.length ≤ cap ∧ cap ≤ maxLen ∧ ∀ i (hi : i < l.length), ∃ g, a = some ⟨g, 0, none⟩ ∧ g < w.heap.size ∧ w.cell? ⟨g, i, none⟩ = some (.string l[i]) := by
  unfold PcOwn at h
  obtain ⟨a, cap, rfl, k1, k2⟩ := own_shp h
  refine ⟨a, cap, rfl, k1, k2, fun i hi => ?_⟩
  obtain ⟨g, cc, e, -, -, -, z, -⟩ := own_open h (by omega)
  simp only [Value.slice.injEq] at e
  obtain ⟨e1, -, -⟩ := e
  subst e1
  refine ⟨g, rfl, z, ?_⟩
  rw [World.ownsRow.cellAt h i (by omega)]
  simp [stC, hi]

set_option maxRecDepth 100000 in
set_option maxHeartbeats 4000000 in
theorem joinInRow_own {w : World} {B : Nat} {v : Value} {l : List ByteArray} (h : PcOwn w B v l) (hl : l.length ≤ 100000) (ht : tot l ≤ 100000) :
    Calls Tryd.prog 88 #[v] w fun e w' => e = .returned (lvO (inRow l)) ∧ Below w.heap.size w w' := by
  obtain ⟨a, cap, rfl, k1, k2, hc⟩ := h.at'
  exact joinInRow_any l a cap w hc hl ⟨k1, k2⟩ ht
theorem joinEvenly_own {w : World} {B : Nat} {v : Value} {l : List ByteArray} (h : PcOwn w B v l) (hl : l.length ≤ 100000) (ht : tot l ≤ 100000) :
    Calls Tryd.prog 93 #[v] w fun e w' => e = .returned (lvO (evn l)) ∧ Below w.heap.size w w' := by
  obtain ⟨a, cap, rfl, k1, k2, hc⟩ := h.at'
  by_cases h0 : l.length = 0
  · have e : evn l = none := by rw [evn, dif_pos h0]
    rw [h0, e]
    exact joinEvenly_none a cap w
  · obtain ⟨g, rfl, hg, -⟩ := hc 0 (by omega)
    exact joinEvenly_some l.length l g 0 cap w rfl (by omega) (fun i hi => by
      obtain ⟨g', e, -, c⟩ := hc i hi
      cases e
      rw [Nat.zero_add]
      exact c) hg k1 k2 (by omega) (by omega)

theorem taP_nil (w : World) : (Instr.typeAssert .nilIface 103 146 true).run Tryd.prog w = .ok (.tuple #[.string ⟨#[]⟩, .bool false]) w := by kernel_rfl
theorem taP_pc (s : ByteArray) (w : World) : (Instr.typeAssert (.iface 146 (.string s)) 103 146 true).run Tryd.prog w = .ok (.tuple #[.string s, .bool true]) w := by kernel_rfl
theorem taP_jn (x : Value) (w : World) : (Instr.typeAssert (.iface 166 x) 103 146 true).run Tryd.prog w = .ok (.tuple #[.string ⟨#[]⟩, .bool false]) w := by kernel_rfl
theorem taJ_nil (w : World) : (Instr.typeAssert .nilIface 103 166 true).run Tryd.prog w = .ok (.tuple #[.agg #[.nilIface, .nilIface, .int .i64 0], .bool false]) w := by kernel_rfl
theorem taJ_jn (x : Value) (w : World) : (Instr.typeAssert (.iface 166 x) 103 166 true).run Tryd.prog w = .ok (.tuple #[x, .bool true]) w := by kernel_rfl
theorem taJ_sure (x : Value) (w : World) : (Instr.typeAssert (.iface 166 x) 103 166 false).run Tryd.prog w = .ok x w := by kernel_rfl
theorem own_off {v v2 : Value} {k n : Nat} (h : v.ownBlock ≠ some k) (hl : v2.ownBlock = v.ownBlock ∨ ∀ y, v2.ownBlock = some y → n ≤ y) (hk : k < n) : v2.ownBlock ≠ some k := fun e => by
  rcases hl with c | c
  · rw [c] at e; exact h e
  · have := c _ e; omega
/-- What is left by adding pieces. -/
def PcPost (m : List ByteArray) (B : Nat) (v : Value) (l : List ByteArray) (w : World) (e : Ending) (w' : World) : Prop := ∃ v', e = .returned v' ∧ PcOwn w' B v' (l ++ m) ∧ Fr B v.ownBlock w w' ∧ (v'.ownBlock = v.ownBlock ∨ ∀ y, v'.ownBlock = some y → w.heap.size ≤ y)

set_option maxRecDepth 100000 in
set_option maxHeartbeats 4000000 in
theorem addPieces_none (B : Nat) (v : Value) (l : List ByteArray) (w : World) (h : PcOwn w B v l) (hB : B ≤ w.heap.size) :
    Calls Tryd.prog 87 #[v, .nilIface] w (PcPost [] B v l w) := by
  unfold PcPost
  have h1 := taP_nil
  have h2 := taJ_nil
  go_enter Tryd.func87, Tryd.ntmps87
  go_wp2
  go_ret
  exact ⟨v, rfl, by rw [List.append_nil]; exact h.alloc _, (Fr.refl _ _ _).alloc hB _, .inl rfl⟩

set_option maxRecDepth 100000 in
set_option maxHeartbeats 4000000 in
theorem addPieces_pc (s : ByteArray) (B : Nat) (v : Value) (l : List ByteArray) (w : World) (h : PcOwn w B v l) (hB : B ≤ w.heap.size) (hl : l.length ≤ 100000) :
    Calls Tryd.prog 87 #[v, .iface 146 (.string s)] w (PcPost [s] B v l w) := by
  obtain ⟨i0, hi0, hz0, hz1, hz2⟩ := info_parts Tryd.infoPiece
  unfold PcPost
  have own2 : w.ownsRow B 146 1 v l.length (stC l) := h
  have ht := taP_pc s
  go_enter Tryd.func87, Tryd.ntmps87
  go_wp2_with (at_builtin; go_loud (refine wpList_append_loc _ rfl _ _ 123 rfl B 146 i0 (.string ⟨#[]⟩) 1 16 Tryd.underlying123 hi0 hz0 hz1 hz2 rfl (by decide) _ _ _ rfl (own2.alloc _) ⟨w.heap.size, 0, none⟩ 1 1 [.string s] rfl rfl (World.news_of_block (cs := #[.string s]) (t := 146) (fr := (0, 0)) (heap_alloc_new w _)) (by simp [Value.oneCell']) (by unfold maxLen; omega) (by omega) (by simp; omega) ?_); intro v3 w3 own3 grow3 loc3; have HO : Hid (PcOwn w3 B v3 (l ++ [s])) := hide (PcOwn.app own3); have HF : Hid (Fr B v.ownBlock w w3) := hide (fr_append (Fr.refl _ _ _) own2 hB grow3); clear own3 grow3)
  go_ret
  refine ⟨v3, rfl, HO.out, HF.out, loc3.imp id (fun k y hy => ?_)⟩
  have := k y hy
  simp at this
  omega

set_option maxRecDepth 100000 in
set_option maxHeartbeats 4000000 in
theorem addPieces_any (t : Lm) : ∀ (B : Nat) (v : Value) (l : List ByteArray) (w : World), PcOwn w B v l → B ≤ w.heap.size → l.length + t.nb ≤ 100000 → t.sz ≤ 1000000 → Calls Tryd.prog 87 #[v, lv t] w (PcPost t.pcs B v l w) := by
  induction t with
  | pc s => intro B v l w h hB hl hz; exact addPieces_pc s B v l w h hB (by omega)
  | jn a b iha ihb =>
    intro B v l w h hB hl hz
    have h1 := taP_jn (.agg #[lv a, lv b, .int .i64 ((a.sz + b.sz : Nat) : Int)])
    have h2 := taJ_jn (.agg #[lv a, lv b, .int .i64 ((a.sz + b.sz : Nat) : Int)])
    simp only [Lm.nb, Lm.sz] at hl hz
    rw [show lv (.jn a b) = .iface 166 (.agg #[lv a, lv b, .int .i64 ((a.sz + b.sz : Nat) : Int)]) from rfl]
    have HV : Hid (∀ y, v.ownBlock = some y → y < w.heap.size) := hide (fun y hy => (World.ownsRow.lt h y hy).2)
    obtain ⟨Ta, xa, -, hva, -⟩ := lv_size a
    obtain ⟨Tb, xb, -, hvb, -⟩ := lv_size b
    obtain ⟨n, hn⟩ : ∃ n : Int, ((a.sz + b.sz : Nat) : Int) = n := ⟨_, rfl⟩
    rw [hva] at h1 h2 iha ⊢
    rw [hvb] at h1 h2 ihb ⊢
    rw [hn] at h1 h2 ⊢
    obtain ⟨w1, hw1⟩ : ∃ w1, w1 = w.alloc (.cells #[.iface Ta xa, .iface Tb xb, .int .i64 n] 166) := ⟨_, rfl⟩
    have own1 : PcOwn w1 B v l := by rw [hw1]; exact World.ownsRow.alloc h _
    have F1 : Fr B v.ownBlock w w1 := by rw [hw1]; exact (Fr.refl _ _ _).alloc hB _
    have hs1 : w1.heap.size = w.heap.size + 1 := by rw [hw1]; simp
    have c0 : w1.cell? ⟨w.heap.size, 0, none⟩ = some (.iface Ta xa) := by rw [hw1, cell_of_row _ _ 0 _ _ (0, 0) (heap_alloc_new w _)]; rfl
    have c1 : w1.cell? ⟨w.heap.size, 1, none⟩ = some (.iface Tb xb) := by rw [hw1, cell_of_row _ _ 1 _ _ (0, 0) (heap_alloc_new w _)]; rfl
    have A1 : Hid (∀ w', w' = w1 ∨ w' = w1.drew → Calls Tryd.prog 87 #[v, .iface Ta xa] w' (PcPost a.pcs B v l w')) := hide (fun w' hw' => by
      rcases hw' with rfl | rfl
      · exact iha B v l _ own1 (by omega) (by omega) (by omega)
      · exact iha B v l _ (own_below own1 (Below.refl _ _).drew) (by show B ≤ w1.heap.size; omega) (by omega) (by omega))
    have hpl : a.pcs.length ≤ a.nb := by have := Lm.nb_pcs a; omega
    have A2 : Hid (∀ w' v', PcOwn w' B v' (l ++ a.pcs) → B ≤ w'.heap.size → Calls Tryd.prog 87 #[v', .iface Tb xb] w' (PcPost b.pcs B v' (l ++ a.pcs) w')) := hide (fun w' v' ho hB' => ihb B v' _ w' ho hB' (by rw [List.length_append]; omega) (by omega))
    unfold PcPost
    clear iha ihb hva hvb hn
    go_enter Tryd.func87, Tryd.ntmps87
    go_wp2
    rw [← hw1]
    have hB1 : B ≤ w1.heap.size := by omega
    clear hw1 h1 h2 h
    go_region_held3 (fun w' => w'.cell? ⟨w.heap.size, 0, none⟩ = some (.iface Ta xa) ∧ w'.cell? ⟨w.heap.size, 1, none⟩ = some (.iface Tb xb))
      (first | assumption | exact ⟨c0, c1⟩ | exact CE1 | exact CE2)
      (first
        | (go_at_call 87; refine (A2.out w2 v2 HO2.out HB2.out).mono ?_; rintro e w3 ⟨v3, rfl, own3, F3, loc3⟩; have CE2 : w3.cell? ⟨w.heap.size, 0, none⟩ = some (.iface Ta xa) ∧ w3.cell? ⟨w.heap.size, 1, none⟩ = some (.iface Tb xb) := ⟨(by rw [F3.cell HS2.out HN2.out]; exact CE1.1), (by rw [F3.cell HS2.out HN2.out]; exact CE1.2)⟩; have HO3 := hide own3; have HF3 := hide (HF2.out.on F3 LOC2.out); have LOC3 := hide loc3; have HS3 := hide F3.g.size; clear own3 F3 loc3)
        | (go_at_call 87; refine (A1.out _ (.inr rfl)).mono ?_; rintro e w2 ⟨v2, rfl, own2, F2, loc2⟩; have F2' := F2.drewL; have HN1 : v.ownBlock ≠ some w.heap.size := (fun e => by have := HV.out _ e; omega); have CE1 : w2.cell? ⟨w.heap.size, 0, none⟩ = some (.iface Ta xa) ∧ w2.cell? ⟨w.heap.size, 1, none⟩ = some (.iface Tb xb) := ⟨(by rw [F2'.cell (by omega) HN1]; exact c0), (by rw [F2'.cell (by omega) HN1]; exact c1)⟩; have HF2 := hide (F1.trans F2'); have HO2 := hide own2; have HS2 : Hid (w.heap.size < w2.heap.size) := hide (by have := F2'.g.size; omega); have HB2 : Hid (B ≤ w2.heap.size) := hide (by have := F2'.g.size; omega); have HN2 : Hid (v2.ownBlock ≠ some w.heap.size) := hide (own_off HN1 loc2 (by show w.heap.size < w1.heap.size; omega)); have LOC2 : Hid (v2.ownBlock = v.ownBlock ∨ ∀ y, v2.ownBlock = some y → w.heap.size ≤ y) := hide (loc2.imp id (fun k y hy => by have := k y hy; simp at this; omega)); clear own2 F2 loc2 F2'))
    go_wp2
    go_ret
    refine ⟨v3, rfl, ?_, HF3.out, ?_⟩
    · rw [Lm.pcs, ← List.append_assoc]; exact HO3.out
    · rcases LOC3.out with k | k
      · rw [k]; exact LOC2.out
      · exact .inr (fun y hy => by have := k y hy; have := HS2.out; omega)
end Go.Proofs.YtgacajnljplmiabDoor
