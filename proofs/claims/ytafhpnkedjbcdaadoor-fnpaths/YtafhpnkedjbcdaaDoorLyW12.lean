/- The contract of layOut. -/
import Derived.Test.YtafhpnkedjbcdaaDoorLyM
import Derived.Test.YtafhpnkedjbcdaaDoorTreeM
import Derived.Test.YtafhpnkedjbcdaaDoorNodes2
import Derived.Deep.RegionWith
namespace Go.Proofs.YtafhpnkedjbcdaaDoor
open Go.RowKit
open Doc1

theorem addN_sum {z y : LS} {n : Nd} (h : addN z n = some y) : y.text.length + y.op.length ≤ z.text.length + z.op.length + (n.name.size + n.text.size) + 1 ∧ y.fr.length = z.fr.length + 1 ∧ (z.fr.length = z.to.length → y.fr.length = y.to.length) ∧ ((∀ o ∈ z.op, o < z.fr.length) → ∀ o ∈ y.op, o < y.fr.length) := by
  have hs : ∀ s : ByteArray, s.data.toList.length = s.size := fun s => size_len s
  refine ⟨?_, addN_fr h, ?_⟩
  all_goals
    unfold addN at h
    split at h
    · split at h
      · cases h
        first
          | (simp [LS.push, LS.write]; omega)
          | exact ⟨fun e => by simp [LS.push, LS.write]; exact e, fun e o ho => by
              simp [LS.push, LS.write] at ho ⊢
              rcases ho with rfl | ho
              · omega
              · have := e o ho; omega⟩
      · cases h
    · cases he : z.endInto n.up with
      | none => rw [he] at h; simp at h
      | some x =>
        rw [he] at h
        simp only [Option.map_some, Option.some.injEq] at h
        subst h
        obtain ⟨e1, e2, e3, e4⟩ := end_sum n.up _ _ _ _ x he
        first
          | (simp only [LS.push, LS.write, List.length_append, List.length_cons, hs]; omega)
          | exact ⟨fun e => by simp only [LS.push, LS.write, List.length_append, List.length_singleton]; rw [e2, e3]; omega, fun e o ho => by
              simp only [LS.push, LS.write, List.length_append, List.length_singleton, List.mem_cons] at ho ⊢
              rcases ho with rfl | ho
              · omega
              · have := e o (e4 o ho); rw [e2]; omega⟩
    · cases he : z.endInto n.up with
      | none => rw [he] at h; simp at h
      | some x =>
        rw [he] at h
        simp only [Option.bind_some] at h
        split at h
        · cases h
        · simp only [Option.some.injEq] at h
          subst h
          obtain ⟨e1, e2, e3, e4⟩ := end_sum n.up _ _ _ _ x he
          first
            | (simp only [LS.write, List.length_append, hs]; omega)
            | exact ⟨fun e => by simp only [LS.write, List.length_append, List.length_singleton]; rw [e2, e3]; omega, fun e o ho => by
                simp only [LS.write, List.length_append, List.length_singleton] at ho ⊢
                have := e o (e4 o ho); rw [e2]; omega⟩
    · cases h
theorem addAll_bad {l : List Nd} {i : Nat} (hi : i < l.length) {z : LS} (h : addAll z0 (l.take i) = some z) (hn : addN z l[i] = none) : addAll z0 l = none := by
  have e : l = (l.take i ++ [l[i]]) ++ l.drop (i + 1) := by rw [← List.take_succ_eq_append_getElem hi, List.take_append_drop]
  rw [e, addAll_app, addAll_snoc, h]
  simp only [Option.bind_some]
  rw [hn]; rfl
theorem addAll_next {l : List Nd} {i : Nat} (hi : i < l.length) {z y : LS} (h : addAll z0 (l.take i) = some z) (hn : addN z l[i] = some y) : addAll z0 (l.take (i + 1)) = some y := by
  rw [List.take_succ_eq_append_getElem hi, addAll_snoc, h]; exact hn
/-- The zero layout. -/
def noLy : Value := .agg #[.slice none 0 0, .slice none 0 0, .slice none 0 0, .slice none 0 0]

theorem ly_new (w : World) (B : Nat) (hB : B ≤ w.heap.size) (t : TypeId) : Ly B w.heap.size (fun _ => .slice none 0 0) z0 (w.alloc (.cells #[.slice none 0 0, .slice none 0 0, .slice none 0 0, .slice none 0 0] t)) := by
  have hh := heap_alloc_new w (.cells #[.slice none 0 0, .slice none 0 0, .slice none 0 0, .slice none 0 0] t)
  refine ⟨fun j hj => ?_, fun j => ?_, fun j hj => ?_, fun i j _ _ _ x hx => (by cases hx), fun j _ => (by simp [Value.ownBlock]), hB⟩
  · unfold World.cell?
    rw [hh]
    match j, hj with
    | 0, _ => rfl
    | 1, _ => rfl
    | 2, _ => rfl
    | 3, _ => rfl
  · unfold World.frozen?
    rw [hh]; simp
  · have : Xz z0 j = [] := by unfold Xz z0; split; rfl; split; rfl; split <;> rfl
    rw [this]
    exact World.ownsRow_nil _ _ _ _
/-- A number is stored into the row of ends. -/
theorem Ly.setTo {B g : Nat} {V : Nat → Value} {z : LS} {w : World} (h : Ly B g V z w) (o x b2 c2 : Nat) (hV2 : V 2 = .slice (some ⟨b2, 0, none⟩) z.to.length c2) :
    Ly B g V ⟨z.text, z.fr, z.to.set o x, z.op⟩ (w.setCell ⟨b2, o, none⟩ (.int .i64 (x : Int))) ∧ Below B w (w.setCell ⟨b2, o, none⟩ (.int .i64 (x : Int))) := by
  have o2 := h.own 2 (by omega)
  rw [hV2, X2, ints_len] at o2
  have o2' := own_store (o := o) o2 x
  have hgb : b2 ≠ g := fun e => h.ag 2 (by omega) (by rw [hV2, ← e]; rfl)
  have hb2B : B ≤ b2 := ((h.own 2 (by omega)).lt b2 (by rw [hV2]; rfl)).1
  have hbk : ∀ k, k ≠ b2 → (w.setCell ⟨b2, o, none⟩ (.int .i64 (x : Int))).heap[k]? = w.heap[k]? := fun k hk => Below.heap_setCell _ _ _ _ hk
  refine ⟨⟨fun j hj => (World.cell?_of_block (hbk g (Ne.symm hgb))).trans (h.c j hj), fun j => (World.frozen?_of_block (hbk g (Ne.symm hgb))).trans (h.fz j), ?_, h.ap, h.ag, h.le⟩, (Below.refl _ _).setCell hb2B _⟩
  intro j hj
  by_cases e : j = 2
  · subst e; rw [hV2, X2, ints_len, List.length_set]; exact o2'
  · have hx : Xz ⟨z.text, z.fr, z.to.set o x, z.op⟩ j = Xz z j := by unfold Xz; rw [if_neg e, if_neg e]
    rw [hx]
    exact set_kept (h.own j hj) (fun e' => h.ap 2 j (by omega) hj (Ne.symm e) b2 (by rw [hV2]; rfl) e')

set_option maxRecDepth 100000 in
set_option maxHeartbeats 4000000 in
theorem layOut_long (l : List Nd) (a : Option Addr) (cap : Nat) (w : World) (_hm : l.length ≤ 1048576) (_hcap : l.length ≤ cap ∧ cap ≤ maxLen) (h : l.length = 0 ∨ 301 < l.length) :
    Calls Tryd.prog 80 #[.slice a l.length cap] w fun e w' => e = .returned (.tuple #[noLy, .bool false]) ∧ Below w.heap.size w w' := by
  rcases h with h | h
  · rw [h]
    go_enter Tryd.func80, Tryd.ntmps80
    go_wp2
    refine bodyPost_ret (v := .tuple #[noLy, .bool false]) (by simp [results, Tryd.results80, go_sem, noLy]) rfl ⟨rfl, ?_⟩
    exact ((Below.refl _ _).alloc (Nat.le_refl _) _).alloc (by simp) _
  · have e1 : ((l.length : Int) == 0) = false := by rw [beq_eq_false_iff_ne]; omega
    have e2 : (301 < (l.length : Int)) := by omega
    go_enter Tryd.func80, Tryd.ntmps80
    go_wp2
    refine bodyPost_ret (v := .tuple #[noLy, .bool false]) (by simp [results, Tryd.results80, go_sem, noLy]) rfl ⟨rfl, ?_⟩
    exact ((Below.refl _ _).alloc (Nat.le_refl _) _).alloc (by simp) _

theorem lay_none_of {l : List Nd} (h : addAll z0 l = none) : layL l = none := by
  unfold layL
  split
  · rfl
  · rw [h]; rfl
theorem lay_of {l : List Nd} {z y : LS} (h0 : 0 < l.length) (h1 : l.length ≤ 301) (h : addAll z0 l = some z) (he : z.endInto 0 = some y) : layL l = if doc y.text then some ⟨y.text, y.fr, y.to.set 0 y.text.length, y.op⟩ else none := by
  unfold layL
  rw [if_neg (by rintro (e | e); · subst e; simp at h0
                 · omega), h]
  simp only [Option.bind_some]
  rw [he]; rfl

theorem set4 {w : World} {b : Nat} {u0 u1 u2 u3 : Value} (a0 a1 a2 a3 : Value) (h0 : w.cell? ⟨b, 0, none⟩ = some u0) (h1 : w.cell? ⟨b, 1, none⟩ = some u1) (h2 : w.cell? ⟨b, 2, none⟩ = some u2) (h3 : w.cell? ⟨b, 3, none⟩ = some u3) :
    ∃ W, W = (((w.setCell ⟨b, 0, none⟩ a0).setCell ⟨b, 1, none⟩ a1).setCell ⟨b, 2, none⟩ a2).setCell ⟨b, 3, none⟩ a3 ∧ (W.cell? ⟨b, 0, none⟩ = some a0 ∧ W.cell? ⟨b, 1, none⟩ = some a1 ∧ W.cell? ⟨b, 2, none⟩ = some a2 ∧ W.cell? ⟨b, 3, none⟩ = some a3) ∧ (∀ k, k ≠ b → W.heap[k]? = w.heap[k]?) ∧ ∀ B, B ≤ b → Below B w W := by
  have n : ∀ i j : Nat, i ≠ j → (⟨b, i, none⟩ : Addr) ≠ ⟨b, j, none⟩ := fun i j h => off_neP h
  refine ⟨_, rfl, ⟨?_, ?_, ?_, ?_⟩, fun k hk => ?_, fun B hB => ((((Below.refl _ _).setCell hB _).setCell hB _).setCell hB _).setCell hB _⟩
  · rw [World.cell?_setCell_other _ _ _ _ (n _ _ (by omega)), World.cell?_setCell_other _ _ _ _ (n _ _ (by omega)), World.cell?_setCell_other _ _ _ _ (n _ _ (by omega))]; exact World.cell?_setCell_same _ _ _ h0
  · rw [World.cell?_setCell_other _ _ _ _ (n _ _ (by omega)), World.cell?_setCell_other _ _ _ _ (n _ _ (by omega))]; exact World.cell?_setCell_same _ _ _ (by rw [World.cell?_setCell_other _ _ _ _ (n _ _ (by omega))]; exact h1)
  · rw [World.cell?_setCell_other _ _ _ _ (n _ _ (by omega))]; exact World.cell?_setCell_same _ _ _ (by rw [World.cell?_setCell_other _ _ _ _ (n _ _ (by omega)), World.cell?_setCell_other _ _ _ _ (n _ _ (by omega))]; exact h2)
  · exact World.cell?_setCell_same _ _ _ (by rw [World.cell?_setCell_other _ _ _ _ (n _ _ (by omega)), World.cell?_setCell_other _ _ _ _ (n _ _ (by omega)), World.cell?_setCell_other _ _ _ _ (n _ _ (by omega))]; exact h3)
  · rw [Below.heap_setCell _ _ _ _ hk, Below.heap_setCell _ _ _ _ hk, Below.heap_setCell _ _ _ _ hk, Below.heap_setCell _ _ _ _ hk]
theorem up_kept {w w2 : World} {a b c : Value} {t : TypeId} (h : Below (w.alloc (.cells #[a, b, c] t)).drew.heap.size (w.alloc (.cells #[a, b, c] t)).drew w2) : w2.cell? ⟨w.heap.size, 2, none⟩ = some c := by
  have hh := heap_alloc_new w (.cells #[a, b, c] t)
  refine (World.cell?_of_block (h.block w.heap.size (by show w.heap.size < (w.alloc _).heap.size; simp))).trans ?_
  show (w.alloc (.cells #[a, b, c] t)).cell? _ = _
  unfold World.cell?
  rw [hh]; rfl

set_option maxRecDepth 100000 in
set_option maxHeartbeats 8000000 in
theorem layOut_any (l : List Nd) (g cap : Nat) (w : World) (_hcap : l.length ≤ cap ∧ cap ≤ maxLen) (h0 : 0 < l.length) (h1 : l.length ≤ 301) (hsz : l.length + szU l l.length ≤ 1048576) (h : NAt w g l) (hg : g < w.heap.size) (hT : Tab w) :
    Calls Tryd.prog 80 #[.slice (some ⟨g, 0, none⟩) l.length cap] w fun e w' => Below w.heap.size w w' ∧ (layL l = none → e = .returned (.tuple #[noLy, .bool false])) ∧
      ∀ y, layL l = some y → ∃ V : Nat → Value, e = .returned (.tuple #[.agg #[V 0, V 1, V 2, V 3], .bool true]) ∧ ∀ j, j < 4 → w'.ownsRow w.heap.size (Et j) 1 (V j) (Xz y j).length (Xz y j) := by
  obtain ⟨W1, hW1⟩ : ∃ W1, W1 = (w.alloc (.cells #[.slice none 0 0, .slice none 0 0, .slice none 0 0, .slice none 0 0] 90)).alloc (.cells #[.slice none 0 0, .slice none 0 0, .slice none 0 0, .slice none 0 0] 90) := ⟨_, rfl⟩
  have hB1 : Below w.heap.size w W1 := by rw [hW1]; exact ((Below.refl _ _).alloc (Nat.le_refl _) _).alloc (by simp) _
  have L0 : Hid (Ly (w.heap.size + 1) (w.heap.size + 1) (fun _ => .slice none 0 0) z0 W1) := hide (by
    have := ly_new (w.alloc (.cells #[.slice none 0 0, .slice none 0 0, .slice none 0 0, .slice none 0 0] 90)) (w.heap.size + 1) (by simp) 90
    rw [World.size_alloc] at this
    rw [hW1]; exact this)
  have hs1 : W1.heap.size = w.heap.size + 2 := by rw [hW1]; simp
  have R : Hid (∀ w', Below (w.heap.size + 1) W1 w' → (w'.cell? ⟨w.heap.size, 0, none⟩ = some (.slice none 0 0) ∧ w'.cell? ⟨w.heap.size, 1, none⟩ = some (.slice none 0 0) ∧ w'.cell? ⟨w.heap.size, 2, none⟩ = some (.slice none 0 0) ∧ w'.cell? ⟨w.heap.size, 3, none⟩ = some (.slice none 0 0)) ∧ (w'.frozen? ⟨w.heap.size, 0, none⟩ = false ∧ w'.frozen? ⟨w.heap.size, 1, none⟩ = false ∧ w'.frozen? ⟨w.heap.size, 2, none⟩ = false ∧ w'.frozen? ⟨w.heap.size, 3, none⟩ = false)) := hide (fun w' hb => by
    have L := ly_new w w.heap.size (Nat.le_refl _) 90
    have hk : w'.heap[w.heap.size]? = (w.alloc (.cells #[.slice none 0 0, .slice none 0 0, .slice none 0 0, .slice none 0 0] 90)).heap[w.heap.size]? := (hb.block w.heap.size (by omega)).trans (by rw [hW1]; exact Below.heap_alloc _ _ _ (by simp))
    exact ⟨⟨(World.cell?_of_block hk).trans (L.c 0 (by omega)), (World.cell?_of_block hk).trans (L.c 1 (by omega)), (World.cell?_of_block hk).trans (L.c 2 (by omega)), (World.cell?_of_block hk).trans (L.c 3 (by omega))⟩, (World.frozen?_of_block hk).trans (L.fz 0), (World.frozen?_of_block hk).trans (L.fz 1), (World.frozen?_of_block hk).trans (L.fz 2), (World.frozen?_of_block hk).trans (L.fz 3)⟩)
  have hTlt := hT.lt
  have hT1 : Tab W1 := hT.below hB1
  have H := hide (h.later hB1 hg)
  have HB1 := hide hB1
  clear h hB1
  have e1 : ((l.length : Int) == 0) = false := by rw [beq_eq_false_iff_ne]; omega
  have e2 : ¬ (301 < (l.length : Int)) := by omega
  go_enter Tryd.func80, Tryd.ntmps80
  go_wp2
  rw [← hW1]
  clear hW1
  go_loopw [18] (fun iv wr => ∃ (i : Nat) (z : LS) (V : Nat → Value), iv = .int .i64 (i : Int) ∧ i ≤ l.length ∧ Hid (Ly (w.heap.size + 1) (w.heap.size + 1) V z wr) ∧ Hid (addAll z0 (l.take i) = some z) ∧ Below (w.heap.size + 1) W1 wr ∧ z.text.length + z.op.length ≤ szU l i + i ∧ z.fr.length = i ∧ z.fr.length = z.to.length ∧ Hid (∀ o ∈ z.op, o < z.fr.length)) (fun iv _ => l.length - (intOf iv).toNat)
  case atStart => exact ⟨0, z0, _, rfl, Nat.zero_le _, L0, hide rfl, Below.refl _ _, by simp [z0, szU], rfl, rfl, hide (fun o ho => by simp [z0] at ho)⟩
  case round =>
    obtain ⟨i, z, V, rfl, hi, hL, hadd, hbel, hlen, hfl, hft, hop⟩ := hrel
    have hszi := szU_mono l i l.length hi
    by_cases hlt : i < l.length
    · have ra := H.out.later hbel (by omega)
      have c0 := ra.c0 i hlt
      have c1 := ra.c1 i hlt
      have c2 := ra.c2 i hlt
      have hszi1 := szU_mono l (i + 1) l.length hlt
      have hsu := szU_succ l i hlt
      have hTr : Tab wr := hT1.low hbel (by omega)
      have S0 := fun w' h => shapeOf_any l[i] w' (by omega) (by omega) h
      have S : Hid (∀ w', Below wr.heap.size wr w' → Calls Tryd.prog 117 #[.agg #[.string l[i].name, .string l[i].text, .int .i64 l[i].up]] w' fun e w'' => e = .returned (shV l[i]) ∧ Below w'.heap.size w' w'') := hide (fun w' hb => S0 w' (hTr.below hb))
      have hbs := hbel.size
      have A : Hid (∀ w', Below wr.heap.size wr w' → Calls Tryd.prog 116 #[.pointer (some ⟨w.heap.size + 1, 0, none⟩), shV l[i], .int .i64 l[i].up] w' fun e w'' => e = .returned (.bool (addN z l[i]).isSome) ∧ Below (w.heap.size + 1) w' w'' ∧ ∀ y, addN z l[i] = some y → ∃ V', Ly (w.heap.size + 1) (w.heap.size + 1) V' y w'') :=
        hide (fun w' hb => add_any (w.heap.size + 1) (w.heap.size + 1) V z l[i] w' (hL.out.later hb) (by have := hb.size; omega) (hTr.below hb) (by omega) (by omega) hft (by omega) (by rw [← hft]; exact hop.out) (by omega) (by omega))
      clear S0 ra
      cases hA : addN z l[i] with
      | none =>
        rw [hA] at A
        have hno := hide (lay_none_of (addAll_bad hlt hadd.out hA))
        clear hL hadd hop
        go_wp2_with fail
        go_region_with (first
          | (go_at_call 117; refine (S.out _ (((Below.refl _ _).alloc (Nat.le_refl _) _).drew)).mono ?_; rintro e w2 ⟨rfl, hb2⟩; have d2 : w2.cell? ⟨wr.heap.size, 2, none⟩ = some (.int .i64 l[i].up) := up_kept hb2)
          | (go_at_call 116; refine (A.out w2 ((((Below.refl _ _).alloc (Nat.le_refl _) _).drew).trans (hb2.mono (by simp)))).mono ?_; rintro e w3 ⟨rfl, hb3, -⟩))
        all_goals
          have hB3 := ((hbel.alloc (by omega) _).drew.trans (hb2.mono (by show w.heap.size + 1 ≤ (wr.alloc _).heap.size; simp; omega))).trans hb3
          obtain ⟨⟨r0, r1, r2, r3⟩, f0, f1, f2, f3⟩ := R.out w3 hB3
          have HB3 := hide hB3
          clear c0 c1 c2 d2 hb2 hb3 hbel hB3 S A
          go_wp2
          obtain ⟨W, hW, ⟨q0, q1, q2, q3⟩, -, hWb⟩ := set4 (.slice none 0 0) (.slice none 0 0) (.slice none 0 0) (.slice none 0 0) r0 r1 r2 r3
          rw [← hW]
          refine bodyPost_ret (v := .tuple #[noLy, .bool false]) (by simp [results, Tryd.results80, go_sem, noLy, q0, q1, q2, q3]) rfl ⟨(HB1.out.trans (HB3.out.mono (by omega))).trans (hWb _ (Nat.le_refl _)), fun _ => rfl, fun y hy => ?_⟩
          rw [hno.out] at hy; cases hy
      | some y =>
        rw [hA] at A
        have hnx := hide (addAll_next hlt hadd.out hA)
        obtain ⟨s1, s2, s3, s4⟩ := addN_sum hA
        have hop2 := hide (s4 hop.out)
        have hft2 := s3 hft
        clear hL hadd hop s3 s4
        go_wp2_with fail
        go_region_with (first
          | (go_at_call 117; refine (S.out _ (((Below.refl _ _).alloc (Nat.le_refl _) _).drew)).mono ?_; rintro e w2 ⟨rfl, hb2⟩; have d2 : w2.cell? ⟨wr.heap.size, 2, none⟩ = some (.int .i64 l[i].up) := up_kept hb2)
          | (go_at_call 116; refine (A.out w2 ((((Below.refl _ _).alloc (Nat.le_refl _) _).drew).trans (hb2.mono (by simp)))).mono ?_; rintro e w3 ⟨rfl, hb3, hV3⟩))
        all_goals
          have hB3 := ((hbel.alloc (by omega) _).drew.trans (hb2.mono (by show w.heap.size + 1 ≤ (wr.alloc _).heap.size; simp; omega))).trans hb3
          obtain ⟨V3, L3⟩ := hV3 y rfl
          have HB3 := hide hB3
          have HL3 := hide L3
          clear c0 c1 c2 d2 hb2 hb3 hbel hB3 S A hV3 L3
          go_wp2
          go_roundw
          case rel => exact ⟨i + 1, y, V3, by go_num, hlt, HL3, hnx, HB3.out, by omega, by omega, hft2, hop2⟩
          case measure => simp [intOf]; omega
    · obtain rfl : i = l.length := by omega
      have hadd2 := hadd.out
      rw [List.take_length] at hadd2
      obtain ⟨y, hy⟩ := lay_ends hadd2 (by intro e; rw [e] at h0; simp at h0)
      have hlay := lay_of h0 h1 hadd2 hy
      obtain ⟨e1', e2', e3', e4'⟩ := end_sum 0 _ _ _ _ y hy
      have E := endInto_any (w.heap.size + 1) (w.heap.size + 1) V z 0 wr hL.out (by have := hbel.size; omega) (by omega) hft (by omega) (by rw [← hft]; exact hop.out)
      rw [hy] at E
      have HE := hide E
      clear E hadd hadd2 hop
      go_wp2_with fail
      refine HE.out.mono ?_
      rintro e w2 ⟨rfl, hb2, hV2⟩
      obtain ⟨V2, L2⟩ := hV2 y rfl
      have hB2 := hbel.trans hb2
      have hB2s := hB2.size
      obtain ⟨a0, c0', hV0, hq1, hq2⟩ := L2.shape 0 (by omega)
      rw [X0, byt_len] at hV0 hq1
      have own2 := L2.own 2 (by omega)
      rw [X2, ints_len] at own2
      have htl : y.to.length = l.length := by omega
      obtain ⟨b2, c2, hVt, hr1, hr2, hr3, hr4, hr5⟩ := own_open own2 (by omega)
      have x2 : w2.cell? ⟨b2, 0, none⟩ = some (.int .i64 (y.to[0]'(by omega) : Int)) := hr5 0 _ (by rw [ints, natI, List.getElem?_map, List.getElem?_map, List.getElem?_eq_getElem (by omega)]; rfl)
      rw [hVt] at own2
      have f2 := own_fz own2 0
      have k0 := L2.c 0 (by omega)
      have k2 := L2.c 2 (by omega)
      rw [hV0] at k0
      rw [hVt] at k2
      obtain ⟨L3, hb3⟩ := L2.setTo 0 y.text.length b2 c2 hVt
      have ow3 := L3.own 0 (by omega)
      rw [X0, byt_len, hV0] at ow3
      have hcv := conv_own (show (w2.setCell ⟨b2, 0, none⟩ (.int .i64 (y.text.length : Int))).ownsRow (w.heap.size + 1) 5 1 _ y.text.length (byt y.text) from ow3)
      have m0 := L3.c 0 (by omega)
      rw [hV0] at m0
      have hTB3 := hB2.trans hb3
      have G := goodDocI_any (ba y.text) (w2.setCell ⟨b2, 0, none⟩ (.int .i64 (y.text.length : Int))) (by rw [ba_size]; have := L2.ap; omega) (hT1.low hTB3 (by omega))
      rw [ba_list] at G
      have HG : Hid (Calls Tryd.prog 14 #[.string ⟨y.text.toArray⟩] (w2.setCell ⟨b2, 0, none⟩ (.int .i64 (y.text.length : Int))) fun e w' => e = .returned (.bool (doc y.text)) ∧ Below (w2.setCell ⟨b2, 0, none⟩ (.int .i64 (y.text.length : Int))).heap.size (w2.setCell ⟨b2, 0, none⟩ (.int .i64 (y.text.length : Int))) w') := hide G
      have HL3 := hide L3
      have HB3 := hide hTB3
      have hs3 := hTB3.size
      have hlay2 := hide hlay
      clear L2 L3 own2 hr5 ow3 G hbel hb2 hV2 hb3 hTB3 hlay HE
      go_wp2_with fail
      refine HG.out.mono ?_
      rintro e w4 ⟨rfl, hb4⟩
      have hB4 := HB3.out.trans (hb4.mono (by omega))
      have L4 := HL3.out.later hb4
      obtain ⟨⟨r0, r1, r2, r3⟩, f0, f1, f2', f3⟩ := R.out w4 hB4
      have n0 := L4.c 0 (by omega)
      have n1 := L4.c 1 (by omega)
      have n2 := L4.c 2 (by omega)
      have n3 := L4.c 3 (by omega)
      clear m0
      obtain ⟨p0, x0, hv0, -, -⟩ := L4.shape 0 (by omega)
      obtain ⟨p1, x1, hv1, -, -⟩ := L4.shape 1 (by omega)
      obtain ⟨p2, x2', hv2, -, -⟩ := L4.shape 2 (by omega)
      obtain ⟨p3, x3, hv3, -, -⟩ := L4.shape 3 (by omega)
      rw [hv0] at n0
      rw [hv1] at n1
      rw [hv2] at n2
      rw [hv3] at n3
      have HV := hide (And.intro hv0 (And.intro hv1 (And.intro hv2 hv3)))
      generalize (Xz ⟨y.text, y.fr, y.to.set 0 y.text.length, y.op⟩ 0).length = m0 at hv0 n0 HV
      generalize (Xz ⟨y.text, y.fr, y.to.set 0 y.text.length, y.op⟩ 1).length = m1 at hv1 n1 HV
      generalize (Xz ⟨y.text, y.fr, y.to.set 0 y.text.length, y.op⟩ 2).length = m2 at hv2 n2 HV
      generalize (Xz ⟨y.text, y.fr, y.to.set 0 y.text.length, y.op⟩ 3).length = m3 at hv3 n3 HV
      clear hV0 hVt hv0 hv1 hv2 hv3
      have HL4 := hide L4
      have HB4 := hide hB4
      clear L4 hb4 hB4 x2 f2 k0 k2 hcv HG HL3 HB3
      cases hd : doc y.text with
      | true =>
        rw [hd] at hlay2
        go_wp2
        obtain ⟨W, hW, ⟨q0, q1, q2, q3⟩, hWk, hWb⟩ := set4 (.slice p0 m0 x0) (.slice p1 m1 x1) (.slice p2 m2 x2') (.slice p3 m3 x3) r0 r1 r2 r3
        rw [← hW]
        refine bodyPost_ret (v := .tuple #[.agg #[.slice p0 m0 x0, .slice p1 m1 x1, .slice p2 m2 x2', .slice p3 m3 x3], .bool true]) (by simp [results, Tryd.results80, go_sem, q0, q1, q2, q3]) rfl ⟨(HB1.out.trans (HB4.out.mono (by omega))).trans (hWb _ (Nat.le_refl _)), fun hno => ?_, fun y' hy' => ?_⟩
        · rw [hlay2.out] at hno; cases hno
        · rw [hlay2.out] at hy'
          simp only [if_true, Option.some.injEq] at hy'
          subst hy'
          refine ⟨V2, by rw [HV.out.1, HV.out.2.1, HV.out.2.2.1, HV.out.2.2.2], fun j hj => ?_⟩
          have ho := HL4.out.own j hj
          refine ⟨ho.1, ?_⟩
          rcases ho.2 with hn | ⟨g', cap', cur, hv, hb', hh, rest⟩
          · exact .inl hn
          · exact .inr ⟨g', cap', cur, hv, by omega, by rw [hWk g' (by omega)]; exact hh, rest⟩
      | false =>
        rw [hd] at hlay2
        go_wp2
        obtain ⟨W, hW, ⟨q0, q1, q2, q3⟩, -, hWb⟩ := set4 (.slice none 0 0) (.slice none 0 0) (.slice none 0 0) (.slice none 0 0) r0 r1 r2 r3
        rw [← hW]
        refine bodyPost_ret (v := .tuple #[noLy, .bool false]) (by simp [results, Tryd.results80, go_sem, noLy, q0, q1, q2, q3]) rfl ⟨(HB1.out.trans (HB4.out.mono (by omega))).trans (hWb _ (Nat.le_refl _)), fun _ => rfl, fun y hy => ?_⟩
        rw [hlay2.out] at hy; simp at hy
end Go.Proofs.YtafhpnkedjbcdaaDoor
