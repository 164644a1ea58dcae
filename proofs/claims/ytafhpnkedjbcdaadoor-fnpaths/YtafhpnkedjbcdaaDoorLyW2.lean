/- The layout in memory: four rows of the call's own, behind one block. -/
import Derived.Test.YtafhpnkedjbcdaaDoorLyW1
import Derived.Test.YtafhpnkedjbcdaaDoorWalks6
import Derived.Test.YtafhpnkedjbcdaaDoorTreeS1
import Derived.Deep.RegionHeld3
import Derived.Deep.RegionLaw
import Derived.Deep.AppendLies
import Derived.Maps.AppendAt
namespace Go.Proofs.YtafhpnkedjbcdaaDoor
open Go.RowKit
open Doc1

def Et (j : Nat) : TypeId := if j = 0 then 5 else 3
def Xz (z : LS) (j : Nat) : List Value :=
  if j = 0 then byt z.text else if j = 1 then ints (natI z.fr) else if j = 2 then ints (natI z.to) else ints (natI z.op.reverse)
def upd (V : Nat → Value) (j : Nat) (v : Value) : Nat → Value := fun i => if i = j then v else V i
/-- The layout stands in a block. -/
structure Ly (B g : Nat) (V : Nat → Value) (z : LS) (w : World) : Prop where
  c : ∀ j, j < 4 → w.cell? ⟨g, j, none⟩ = some (V j)
  fz : ∀ j, w.frozen? ⟨g, j, none⟩ = false
  own : ∀ j, j < 4 → w.ownsRow B (Et j) 1 (V j) (Xz z j).length (Xz z j)
  ap : ∀ i j, i < 4 → j < 4 → i ≠ j → ∀ x, (V i).ownBlock = some x → (V j).ownBlock ≠ some x
  ag : ∀ j, j < 4 → (V j).ownBlock ≠ some g
  le : B ≤ g
theorem Ly.lt {B g : Nat} {V : Nat → Value} {z : LS} {w : World} (h : Ly B g V z w) : g < w.heap.size := World.block_lt_of_cell? w _ (h.c 0 (by omega))
/-- A row is put in another's place. -/
theorem Ly.put {B g : Nat} {V : Nat → Value} {z z' : LS} {w w2 : World} (h : Ly B g V z w) (j : Nat) (hj : j < 4) (v' : Value) (hb : ∀ k, k < w.heap.size → some k ≠ (V j).ownBlock → w2.heap[k]? = w.heap[k]?)
    (ho : w2.ownsRow B (Et j) 1 v' (Xz z' j).length (Xz z' j)) (hz : ∀ i, i < 4 → i ≠ j → Xz z' i = Xz z i) (hat : v'.ownBlock = (V j).ownBlock ∨ ∀ x, v'.ownBlock = some x → w.heap.size ≤ x) : Ly B g (upd V j v') z' (w2.setCell ⟨g, j, none⟩ v') := by
  have hgl := h.lt
  have hg : w2.heap[g]? = w.heap[g]? := hb g hgl (Ne.symm (h.ag j hj))
  have hc : ∀ i, i < 4 → w2.cell? ⟨g, i, none⟩ = some (V i) := fun i hi => (World.cell?_of_block hg).trans (h.c i hi)
  have vlt : ∀ i, i < 4 → ∀ x, (V i).ownBlock = some x → x < w.heap.size := fun i hi x hx => ((h.own i hi).lt x hx).2
  have vg : v'.ownBlock ≠ some g := by
    rcases hat with e | e
    · rw [e]; exact h.ag j hj
    · intro he; have := e g he; omega
  have vap : ∀ i, i < 4 → i ≠ j → ∀ x, v'.ownBlock = some x → (V i).ownBlock ≠ some x := by
    intro i hi hij x hx he
    rcases hat with e | e
    · rw [e] at hx; exact h.ap j i hj hi (Ne.symm hij) x hx he
    · have := e x hx; have := vlt i hi x he; omega
  refine ⟨?_, fun i => by rw [World.frozen?_setCell]; exact (World.frozen?_of_block hg).trans (h.fz i), ?_, ?_, ?_, h.le⟩
  · intro i hi
    unfold upd
    by_cases e : i = j
    · subst e; rw [if_pos rfl]; exact World.cell?_setCell_same _ _ _ (hc i hi)
    · rw [if_neg e, World.cell?_setCell_other _ _ _ _ (off_neP (Ne.symm e))]; exact hc i hi
  · intro i hi
    unfold upd
    by_cases e : i = j
    · subst e; rw [if_pos rfl]; exact set_kept ho vg
    · rw [if_neg e, hz i hi e]
      have hk : w2.ownsRow B (Et i) 1 (V i) (Xz z i).length (Xz z i) := by
        refine ⟨(h.own i hi).1, ?_⟩
        rcases (h.own i hi).2 with hn | ⟨g', cap, cur, hv, hb', hh, rest⟩
        · exact .inl hn
        · refine .inr ⟨g', cap, cur, hv, hb', ?_, rest⟩
          have hbl : (V i).ownBlock = some g' := by rw [hv]; rfl
          rw [hb g' (vlt i hi g' hbl) (fun e' => h.ap i j hi hj e g' hbl e'.symm)]
          exact hh
      exact set_kept hk (h.ag i hi)
  · intro a b ha hb' hab x hx
    unfold upd at hx ⊢
    by_cases e : a = j
    · subst e
      rw [if_pos rfl] at hx
      rw [if_neg (Ne.symm hab)]
      exact vap b hb' (Ne.symm hab) x hx
    · rw [if_neg e] at hx
      by_cases e2 : b = j
      · subst e2
        rw [if_pos rfl]
        intro he
        exact vap a ha e x he hx
      · rw [if_neg e2]; exact h.ap a b ha hb' hab x hx
  · intro i hi
    unfold upd
    by_cases e : i = j
    · rw [if_pos e]; exact vg
    · rw [if_neg e]; exact h.ag i hi
theorem Ly.drew {B g : Nat} {V : Nat → Value} {z : LS} {w : World} (h : Ly B g V z w) : Ly B g V z w.drew := ⟨h.c, h.fz, h.own, h.ap, h.ag, h.le⟩
theorem Ly.later {B g : Nat} {V : Nat → Value} {z : LS} {w w1 : World} (h : Ly B g V z w) (hb : Below w.heap.size w w1) : Ly B g V z w1 :=
  ⟨fun j hj => (World.cell?_of_block (hb.block g h.lt)).trans (h.c j hj), fun j => (World.frozen?_of_block (hb.block g h.lt)).trans (h.fz j), fun j hj => own_below (h.own j hj) hb, h.ap, h.ag, h.le⟩
/-- A number is stored into a row. -/
theorem own_store {w : World} {B b n cap o : Nat} {l : List Nat} (h : w.ownsRow B 3 1 (.slice (some ⟨b, 0, none⟩) n cap) n (ints (natI l))) (x : Nat) : (w.setCell ⟨b, o, none⟩ (.int .i64 (x : Int))).ownsRow B 3 1 (.slice (some ⟨b, 0, none⟩) n cap) n (ints (natI (l.set o x))) := by
  have := h.stored o (.int .i64 (x : Int))
  have e : ints (natI (l.set o x)) = (ints (natI l)).set o (.int .i64 (x : Int)) := by simp [ints, natI, List.map_set]
  rw [e]
  exact this.1
theorem Ly.shape {B g : Nat} {V : Nat → Value} {z : LS} {w : World} (h : Ly B g V z w) (j : Nat) (hj : j < 4) : ∃ a cap, V j = .slice a (Xz z j).length cap ∧ (Xz z j).length ≤ cap ∧ cap ≤ maxLen := by
  rcases (h.own j hj).2 with ⟨hv, h0⟩ | ⟨g, cap, cur, hv, hb, hh, hle, hm, hs, ht⟩
  · exact ⟨none, 0, by rw [h0, hv], by omega, by unfold maxLen; omega⟩
  · exact ⟨_, cap, hv, hle, hm⟩
theorem X0 (z : LS) : Xz z 0 = byt z.text := rfl
theorem X1 (z : LS) : Xz z 1 = ints (natI z.fr) := rfl
theorem X2 (z : LS) : Xz z 2 = ints (natI z.to) := rfl
theorem X3 (z : LS) : Xz z 3 = ints (natI z.op.reverse) := rfl
theorem ints_len (l : List Nat) : (ints (natI l)).length = l.length := by simp [ints, natI]

/-- One element ends: what the three statements leave. -/
theorem ly_pop {B g : Nat} {V : Nat → Value} {text : List UInt8} {fr to : List Nat} {o : Nat} {r : List Nat} {w w2 : World} {v0 : Value} {a3 : Addr} {c3 : Nat} (h : Ly B g V ⟨text, fr, to, o :: r⟩ w)
    (ho2 : w2.ownsRow B 5 1 v0 (text.length + 1) (byt text ++ [.int .u8 47])) (ob : Obj) (hg2 : (w.alloc ob).grownBy w2 (V 0).ownBlock) (hat : v0.ownBlock = (V 0).ownBlock ∨ v0.ownBlock = some (w.heap.size + 1))
    (b2 c2 : Nat) (hV2 : V 2 = .slice (some ⟨b2, 0, none⟩) to.length c2) (hV3 : V 3 = .slice (some a3) (r.length + 1) c3) (hle : B ≤ w.heap.size) :
    ∃ V', Ly B g V' ⟨text ++ [slash], fr, to.set o (text.length + 1), r⟩ (((w2.setCell ⟨g, 0, none⟩ v0).setCell ⟨b2, o, none⟩ (.int .i64 ((text.length + 1 : Nat) : Int))).setCell ⟨g, 3, none⟩ (.slice (some a3) r.length c3)) ∧
      Below B w (((w2.setCell ⟨g, 0, none⟩ v0).setCell ⟨b2, o, none⟩ (.int .i64 ((text.length + 1 : Nat) : Int))).setCell ⟨g, 3, none⟩ (.slice (some a3) r.length c3)) := by
  have hblk : ∀ k, k < w.heap.size → some k ≠ (V 0).ownBlock → w2.heap[k]? = w.heap[k]? := fun k hk hne => (hg2.block k (by simp; omega) hne).trans (Below.heap_alloc w ob k hk)
  have L1 := h.put (z' := ⟨text ++ [slash], fr, to, o :: r⟩) (w2 := w2) 0 (by omega) v0 hblk (by rw [X0]; show w2.ownsRow B 5 1 v0 (byt (text ++ [slash])).length (byt (text ++ [slash])); rw [byt_len, byt_snoc, List.length_append]; exact ho2)
    (fun i _ hi => by unfold Xz; rw [if_neg hi, if_neg hi]) (hat.imp id (fun e x hx => by rw [e] at hx; cases hx; omega))
  have hB2 : Below B w w2 := ((Below.refl _ _).alloc hle ob).grown hg2 (by simp; omega) (fun k hk => ((h.own 0 (by omega)).lt k hk).1)
  have hb2B : B ≤ b2 := ((h.own 2 (by omega)).lt b2 (by rw [hV2]; rfl)).1
  have hVb : (upd V 0 v0) 2 = .slice (some ⟨b2, 0, none⟩) to.length c2 := hV2
  have o2 := L1.own 2 (by omega)
  rw [hVb, X2, ints_len] at o2
  have o2' := own_store (o := o) o2 (text.length + 1)
  have hgb : b2 ≠ g := fun e => L1.ag 2 (by omega) (by rw [hVb, ← e]; rfl)
  -- the store into the row of ends, seen as a new row in the old one's place
  have L2 : Ly B g (upd V 0 v0) ⟨text ++ [slash], fr, to.set o (text.length + 1), o :: r⟩ ((w2.setCell ⟨g, 0, none⟩ v0).setCell ⟨b2, o, none⟩ (.int .i64 ((text.length + 1 : Nat) : Int))) := by
    have hbk : ∀ k, k ≠ b2 → ((w2.setCell ⟨g, 0, none⟩ v0).setCell ⟨b2, o, none⟩ (.int .i64 ((text.length + 1 : Nat) : Int))).heap[k]? = (w2.setCell ⟨g, 0, none⟩ v0).heap[k]? := fun k hk => Below.heap_setCell _ _ _ _ hk
    refine ⟨fun j hj => (World.cell?_of_block (hbk g (Ne.symm hgb))).trans (L1.c j hj), fun j => (World.frozen?_of_block (hbk g (Ne.symm hgb))).trans (L1.fz j), ?_, L1.ap, L1.ag, L1.le⟩
    intro j hj
    by_cases e : j = 2
    · subst e; rw [hVb, X2, ints_len, List.length_set]; exact o2'
    · have hx : Xz ⟨text ++ [slash], fr, to.set o (text.length + 1), o :: r⟩ j = Xz ⟨text ++ [slash], fr, to, o :: r⟩ j := by unfold Xz; rw [if_neg e, if_neg e]
      rw [hx]
      exact set_kept (L1.own j hj) (fun e' => L1.ap 2 j (by omega) hj (Ne.symm e) b2 (by rw [hVb]; rfl) e')
  have hV3' : (upd V 0 v0) 3 = .slice (some a3) (r.length + 1) c3 := hV3
  have o3 := L2.own 3 (by omega)
  rw [hV3', X3, ints_len] at o3
  have ha3 : ∃ b3, a3 = ⟨b3, 0, none⟩ := by
    rcases o3.2 with ⟨h1, _⟩ | ⟨g', cap', cur, hv, _⟩
    · cases h1
    · injection hv with hv; exact ⟨g', by injection hv⟩
  obtain ⟨b3, rfl⟩ := ha3
  have e3 : ints (natI (o :: r).reverse) = ints (natI r.reverse) ++ [.int .i64 (o : Int)] := by simp [ints, natI]
  simp only [List.length_reverse, List.length_cons] at o3
  rw [e3] at o3
  have o3' := own_cut o3 (by rw [ints_len]; simp)
  have L3 := L2.put (z' := ⟨text ++ [slash], fr, to.set o (text.length + 1), r⟩) (w2 := (w2.setCell ⟨g, 0, none⟩ v0).setCell ⟨b2, o, none⟩ (.int .i64 ((text.length + 1 : Nat) : Int))) 3 (by omega) (.slice (some ⟨b3, 0, none⟩) r.length c3) (fun _ _ _ => rfl) (by rw [X3, ints_len, List.length_reverse]; exact o3') (fun i hi4 hi => by
      unfold Xz
      by_cases h0 : i = 0
      · rw [if_pos h0, if_pos h0]
      · rw [if_neg h0, if_neg h0]
        by_cases h1 : i = 1
        · rw [if_pos h1, if_pos h1]
        · rw [if_neg h1, if_neg h1]
          by_cases h2 : i = 2
          · rw [if_pos h2, if_pos h2]
          · exact (by omega : False).elim) (Or.inl (by rw [hV3']; rfl))
  exact ⟨_, L3, ((hB2.setCell h.le _).setCell hb2B _).setCell h.le _⟩

theorem own_fz {w : World} {B b n cap sz : Nat} {e : TypeId} {xs : List Value} (h : w.ownsRow B e sz (.slice (some ⟨b, 0, none⟩) n cap) n xs) (j : Nat) : w.frozen? ⟨b, j, none⟩ = false := by
  rcases h.2 with ⟨h1, _⟩ | ⟨g', cap', cur, hv, hb, hh, _⟩
  · cases h1
  · cases hv
    unfold World.frozen?
    simp [hh]

theorem Tryd.infoU8 : (Tryd.prog.info? 5).map (fun i => (i.zero, i.size, i.bytes)) = some (some (.int .u8 0), 1, 1) := by kernel_rfl

set_option maxRecDepth 100000 in
set_option maxHeartbeats 4000000 in
theorem endInto_any (B g : Nat) (V : Nat → Value) (z : LS) (u : Int) (w : World) (h : Ly B g V z w) (hB : B ≤ w.heap.size) (hl : z.text.length + z.op.length ≤ 4000000) (hf : z.fr.length = z.to.length) (hn : z.to.length ≤ 4000000) (ho : ∀ o ∈ z.op, o < z.to.length) :
    Calls Tryd.prog 118 #[.pointer (some ⟨g, 0, none⟩), .int .i64 u] w fun e w' => e = .returned (.bool (z.endInto u).isSome) ∧ Below B w w' ∧ ∀ y, z.endInto u = some y → ∃ V', Ly B g V' y w' := by
  obtain ⟨i0, hi0, hz0, hz1, hz2⟩ := info_parts Tryd.infoU8
  obtain ⟨a3, c3, hV3, hcp1, hcp2⟩ := h.shape 3 (by omega)
  have d3 := h.c 3 (by omega)
  rw [hV3] at d3
  rw [X3, ints_len, List.length_reverse] at d3 hcp1
  have hop : z.op.length ≤ 4000000 := by omega
  have H0 := hide h
  clear h hV3
  go_enter Tryd.func118, Tryd.ntmps118
  go_wp2
  go_loopw [5] (fun iv wr => ∃ (y : LS) (V : Nat → Value), iv = .int .i64 ((y.op.length : Int) - 1) ∧ Ly B g V y wr ∧ Below B w wr ∧ Hid (z.endInto u = y.endInto u) ∧ y.text.length + y.op.length ≤ 4000000 ∧ y.fr.length = y.to.length ∧ y.to.length ≤ 4000000 ∧ Hid (∀ o ∈ y.op, o < y.to.length)) (fun iv _ => ((intOf iv) + 1).toNat)
  case atStart => exact ⟨z, V, rfl, H0.out, Below.refl _ _, hide rfl, hl, hf, hn, hide ho⟩
  case round =>
    obtain ⟨y, V, rfl, hL, hbel, hE, hl', hf', hn', ho'⟩ := hrel
    obtain ⟨text, fr, to, op⟩ := y
    cases op with
    | nil =>
      have hno : z.endInto u = none := by rw [hE.out]; rfl
      have Hno := hide hno
      clear hno hL
      go_wp2
      go_ret
      exact ⟨by rw [Hno.out]; rfl, hbel, fun y hy => by rw [Hno.out] at hy; cases hy⟩
    | cons o r =>
      have hol := ho'.out o (by simp)
      obtain ⟨a0, c0', hV0, hq1, hq2⟩ := hL.shape 0 (by omega)
      rw [X0, byt_len] at hV0 hq1
      have own2 := hL.own 2 (by omega)
      rw [X2, ints_len] at own2
      obtain ⟨b2, c2, hV2, hr1, hr2, hr3, hr4, hr5⟩ := own_open own2 (by show 0 < to.length; have : o < to.length := hol; omega)
      have own3 := hL.own 3 (by omega)
      rw [X3, ints_len, List.length_reverse] at own3
      obtain ⟨b3, c3', hV3, hs1, hs2, hs3, hs4, hs5⟩ := own_open own3 (by show 0 < (o :: r).length; simp)
      have k0 := hL.c 0 (by omega)
      have k2 := hL.c 2 (by omega)
      have k3 := hL.c 3 (by omega)
      have kf := hL.fz
      have e3 : wr.cell? ⟨b3, r.length, none⟩ = some (.int .i64 (o : Int)) := hs5 r.length _ (by simp [ints, natI])
      rw [hV0] at k0
      rw [hV2] at k2 own2
      rw [hV3] at k3
      simp only [List.length_cons] at k3 hs1 hs2
      have f2 := own_fz own2 o
      have x2 : wr.cell? ⟨b2, o, none⟩ = some (.int .i64 (to[o]'hol : Int)) := hr5 o _ (by rw [ints, natI, List.getElem?_map, List.getElem?_map, List.getElem?_eq_getElem hol]; rfl)
      have hb2g : b2 ≠ g := fun e => hL.ag 2 (by omega) (by rw [hV2, ← e]; rfl)
      have hb3g : b3 ≠ g := fun e => hL.ag 3 (by omega) (by rw [hV3, ← e]; rfl)
      have hb23 : b2 ≠ b3 := fun e => hL.ap 2 3 (by omega) (by omega) (by omega) b2 (by rw [hV2]; rfl) (by rw [hV3, e]; rfl)
      have hlg := hL.lt
      have hBw : B ≤ wr.heap.size := Nat.le_trans hB hbel.size
      have kf0 := hL.fz 0
      have kf3 := hL.fz 3
      by_cases he : (o : Int) = u
      · have hy : z.endInto u = some ⟨text, fr, to, o :: r⟩ := by rw [hE.out]; unfold LS.endInto endI; rw [if_pos he]
        have e1 : ((o : Int) == u) = true := by simpa using he
        have Hy := hide hy
        have HL := hide hL
        clear hy hL he own2 own3 hs5 hr5
        go_wp2
        go_ret
        exact ⟨by rw [Hy.out]; rfl, hbel, fun y hy => by rw [Hy.out] at hy; cases hy; exact ⟨V, HL.out⟩⟩
      · have e1 : ((o : Int) == u) = false := by simpa using he
        have hE2 : Hid (z.endInto u = LS.endInto ⟨text ++ [slash], fr, to.set o (text.length + 1), r⟩ u) := hide (by rw [hE.out]; conv => lhs; unfold LS.endInto endI
                                                                                                                     rw [if_neg he]; rfl)
        have own0 := hL.own 0 (by omega)
        rw [X0, byt_len, hV0] at own0
        have HL := hide hL
        have hE0 : Et 0 = 5 := rfl
        rw [hE0] at own0
        clear hL he own2 own3 hs5 hr5 hE
        simp only at hl' hn' hf' hq1
        simp only [List.length_cons] at hl'
        go_wp2_with (at_builtin; refine wpList_append_own_at _ rfl _ _ 22 rfl B 5 i0 (.int .u8 0) 1 1 Tryd.underlying22 hi0 hz0 hz1 hz2 rfl (by decide) _ _ _ rfl (own0.alloc _) ⟨wr.heap.size, 0, none⟩ 1 1 [.int .u8 47] rfl rfl ?c1 ?c2 ?c3 ?c4 ?c5 ?_)
        all_goals try (first | exact cell_one_new _ _ _ | rfl | (intro u hu; simp at hu; subst hu; rfl) | (unfold maxLen; omega) | omega | (simp; omega))
        intro v' w2 ho2 hg2 _ hat
        obtain ⟨V', hP, hPb⟩ := ly_pop HL.out ho2 (.cells #[.int .u8 47] 5) (by rw [hV0]; exact hg2) (by rw [hV0]; exact hat) b2 c2 hV2 hV3 hBw
        have HP := hide hP
        have HPb := hide (hbel.trans hPb)
        have n0 : ∀ j, j < 4 → j ≠ 0 → ∀ x, (V j).ownBlock = some x → some x ≠ (Value.slice a0 text.length c0').ownBlock := fun j hj h0 x hx e => HL.out.ap j 0 hj (by omega) h0 x hx (by rw [hV0]; exact e.symm)
        have bg : w2.heap[g]? = wr.heap[g]? := (hg2.block g (by simp; omega) (fun e => HL.out.ag 0 (by omega) (by rw [hV0]; exact e.symm))).trans (Below.heap_alloc _ _ _ hlg)
        have bb2 : w2.heap[b2]? = wr.heap[b2]? := (hg2.block b2 (by simp; omega) (n0 2 (by omega) (by omega) b2 (by rw [hV2]; rfl))).trans (Below.heap_alloc _ _ _ hr4)
        have bb3 : w2.heap[b3]? = wr.heap[b3]? := (hg2.block b3 (by simp; omega) (n0 3 (by omega) (by omega) b3 (by rw [hV3]; rfl))).trans (Below.heap_alloc _ _ _ hs4)
        have m0 := (World.cell?_of_block (a := ⟨g, 0, none⟩) bg).trans k0
        have m2 := (World.cell?_of_block (a := ⟨g, 2, none⟩) bg).trans k2
        have m3 := (World.cell?_of_block (a := ⟨g, 3, none⟩) bg).trans k3
        have mf0 := (World.frozen?_of_block (a := ⟨g, 0, none⟩) bg).trans kf0
        have mf3 := (World.frozen?_of_block (a := ⟨g, 3, none⟩) bg).trans kf3
        have me := (World.cell?_of_block (a := ⟨b3, r.length, none⟩) bb3).trans e3
        have mx := (World.cell?_of_block (a := ⟨b2, o, none⟩) bb2).trans x2
        have mf2 := (World.frozen?_of_block (a := ⟨b2, o, none⟩) bb2).trans f2
        obtain ⟨av, cv, rfl, hcv1, hcv2⟩ : ∃ a cap, v' = .slice a (text.length + 1) cap ∧ text.length + 1 ≤ cap ∧ cap ≤ maxLen := by
          rcases ho2.2 with ⟨_, h0⟩ | ⟨g, cap, cur, hv, hb, hh, hle, hm, hs, ht⟩
          · omega
          · exact ⟨_, cap, hv, hle, hm⟩
        have q0 : (w2.setCell ⟨g, 0, none⟩ (.slice av (text.length + 1) cv)).cell? ⟨g, 0, none⟩ = some (.slice av (text.length + 1) cv) := World.cell?_setCell_same _ _ _ m0
        have q2 : (w2.setCell ⟨g, 0, none⟩ (.slice av (text.length + 1) cv)).cell? ⟨g, 2, none⟩ = some (.slice (some ⟨b2, 0, none⟩) to.length c2) := by rw [World.cell?_setCell_other _ _ _ _ (off_neP (by omega))]; exact m2
        have q3 : (w2.setCell ⟨g, 0, none⟩ (.slice av (text.length + 1) cv)).cell? ⟨g, 3, none⟩ = some (.slice (some ⟨b3, 0, none⟩) (r.length + 1) c3') := by rw [World.cell?_setCell_other _ _ _ _ (off_neP (by omega))]; exact m3
        have sx : ∀ (b j : Nat), b ≠ g → (w2.setCell ⟨g, 0, none⟩ (.slice av (text.length + 1) cv)).heap[b]? = w2.heap[b]? := fun b j hb => Below.heap_setCell _ _ _ _ hb
        have qe := (World.cell?_of_block (a := ⟨b3, r.length, none⟩) (sx b3 0 hb3g)).trans me
        have qx := (World.cell?_of_block (a := ⟨b2, o, none⟩) (sx b2 0 hb2g)).trans mx
        have qf2 := (World.frozen?_of_block (a := ⟨b2, o, none⟩) (sx b2 0 hb2g)).trans mf2
        have qf3 : (w2.setCell ⟨g, 0, none⟩ (.slice av (text.length + 1) cv)).frozen? ⟨g, 3, none⟩ = false := by rw [World.frozen?_setCell]; exact mf3
        have hol' : o < to.length := hol
        clear ho2 hg2 hat hP hPb n0 bg bb2 bb3 k0 k2 k3 e3 x2 f2 kf0 kf3 own0 m2 m3 mf3 me mx mf2 sx kf HL
        go_wp2_with fail
        clear m0 mf0
        rw [show ((text.length + 1 : Nat) : Int) = (text.length : Int) + 1 by omega] at HP HPb
        generalize w2.setCell ⟨g, 0, none⟩ (.slice av (text.length + 1) cv) = w3 at *
        have ho0 : (0 : Int) ≤ (o : Int) := by omega
        have ho1 : (o : Int) < (to.length : Int) := by omega
        have hr0 : (0 : Int) ≤ (r.length : Int) := by omega
        have hr1' : (r.length : Int) < ((r.length + 1 : Nat) : Int) := by omega
        have hr2' : (r.length : Int) < (r.length : Int) + 1 := by omega
        go_region_held3 (fun w' => w'.cell? ⟨g, 0, none⟩ = some (.slice av (text.length + 1) cv) ∧ w'.cell? ⟨g, 2, none⟩ = some (.slice (some ⟨b2, 0, none⟩) to.length c2) ∧ w'.cell? ⟨g, 3, none⟩ = some (.slice (some ⟨b3, 0, none⟩) (r.length + 1) c3') ∧ w'.cell? ⟨b3, r.length, none⟩ = some (.int .i64 (o : Int)))
          (first | go_keep)
          (fail)
        all_goals
          have qf3' : (w3.setCell ⟨b2, o, none⟩ (.int .i64 ((text.length : Int) + 1))).drew.frozen? ⟨g, 3, none⟩ = false := by show (w3.setCell _ _).frozen? _ = _; rw [World.frozen?_setCell]; exact qf3
          go_wp2
          refine ⟨⟨⟨text ++ [slash], fr, to.set o (text.length + 1), r⟩, V', rfl, HP.out.drew, HPb.out.drew, hE2, by simp; omega, by simp; exact hf', by simp; omega, hide (fun x hx => by simp; exact ho'.out x (List.mem_cons_of_mem _ hx))⟩, by simp [intOf]⟩
end Go.Proofs.YtafhpnkedjbcdaaDoor
