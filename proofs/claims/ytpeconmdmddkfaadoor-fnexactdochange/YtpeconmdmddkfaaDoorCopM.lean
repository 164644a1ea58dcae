/- The program's copies of changes. Rows of changes that are built: the program's copyOfChanges. The model's copies of changes. What is put behind, what is cut, and copies of a history. Copies of a history; a change is done and turned round. The program's DoChange. The program's DoChange, on. The model's l14Push. The model's DoChange. -/
import Derived.Test.YtpeconmdmddkfaaDoorHisN
import Derived.Test.YtpeconmdmddkfaaDoorHNew
import Derived.Test.YtpeconmdmddkfaaDoorFrm
import Derived.Deep.RegionHeldLaw
import Derived.Laws.CopyRow
import Derived.Deep.CutRange
import Derived.Deep.RegionHeld3
import Derived.Test.YtpeconmdmddkfaaDoorOpW78
set_option linter.unusedVariables false
namespace Go.Proofs.YtpeconmdmddkfaaDoor
open Go.RowKit
open Doc1

theorem pown_app {w : World} {B : Nat} {v : Value} {l : List Pt} {p : Pt} (h : w.ownsRow B 94 3 v (l.length + 1) (encP l ++ [.int .i64 p.keep, .string p.put, .string p.drop])) : POwn w B v (l ++ [p]) := by
  unfold POwn
  rw [List.length_append, encP_app]
  exact h

set_option maxRecDepth 100000 in
set_option maxHeartbeats 4000000 in
theorem copyOp {w : World} {v : Value} {l : List Pt} (h : PR w v l) (hl : l.length ≤ 1048576) (hs : ∀ j (hj : j < l.length), l[j].put.size ≤ 1048576 ∧ l[j].drop.size ≤ 1048576) :
    Calls Tryd.prog 158 #[v] w fun e w' => ∃ v', e = .returned v' ∧ POwn w' w.heap.size v' l ∧ Below w.heap.size w w' := by
  have hinfo : (Tryd.prog.info? 94).map (fun i => (i.zero, i.size, i.bytes)) = some (some (.agg #[.int .i64 0, .string ⟨#[]⟩, .string ⟨#[]⟩]), 3, 40) := by kernel_rfl
  obtain ⟨i0, hi0, hz0, hz1, hz2⟩ := info_parts hinfo
  rcases h with ⟨rfl, a, c, rfl, -⟩ | ⟨g, cap, rfl, h1, h2, h3, h4, -⟩
  · go_enter Tryd.func158, Tryd.ntmps158
    go_wp2
    go_loop [3, 8] (fun o i => o = .slice none 0 0 ∧ i = .int .i64 0) (fun _ _ => 0)
    case atStart => exact ⟨rfl, rfl⟩
    case round =>
      obtain ⟨rfl, rfl⟩ := hrel
      go_wp2
      go_ret
      exact ⟨_, rfl, World.ownsRow_nil _ _ _ _, Below.refl _ _⟩
  · have HC := hide h4
    have HS := hide hs
    clear h4 hs
    go_enter Tryd.func158, Tryd.ntmps158
    go_wp2
    go_loopw [3, 8] (fun o i wr => ∃ k : Nat, k ≤ l.length ∧ i = .int .i64 k ∧ Hid (POwn wr w.heap.size o (l.take k)) ∧ Below w.heap.size w wr) (fun _ i _ => l.length - (intOf i).toNat)
    case atStart => exact ⟨0, Nat.zero_le _, rfl, hide (by rw [List.take_zero]; exact World.ownsRow_nil _ _ _ _), Below.refl _ _⟩
    case round =>
      obtain ⟨k, hk, rfl, HO, hbel⟩ := hrel
      by_cases hlt : k < l.length
      · obtain ⟨c0, c1, c2⟩ := (HC.out.later hbel h3).ptat k hlt
        have hsz := HS.out k hlt
        obtain ⟨W1, hW1⟩ : ∃ W1, W1 = wr.alloc (.cells #[.int .i64 l[k].keep, .string l[k].put, .string l[k].drop] 94) := ⟨_, rfl⟩
        have b1 : CB W1 wr.heap.size #[.int .i64 l[k].keep, .string l[k].put, .string l[k].drop] := by rw [hW1]; exact CB.new _ _ _
        have hB1 : Below wr.heap.size wr W1 := by rw [hW1]; exact (Below.refl _ _).alloc (Nat.le_refl _) _
        have KC : Hid (∀ w', Below W1.heap.size W1 w' → w'.cell? ⟨wr.heap.size, 0, none⟩ = some (.int .i64 l[k].keep) ∧ w'.cell? ⟨wr.heap.size, 1, none⟩ = some (.string l[k].put) ∧ w'.cell? ⟨wr.heap.size, 2, none⟩ = some (.string l[k].drop)) := hide (fun w' hb => ⟨(b1.later hb).cell 0 rfl, (b1.later hb).cell 1 rfl, (b1.later hb).cell 2 rfl⟩)
        have CP := hide (fun w' => strClone_any l[k].put w' hsz.1)
        have CD := hide (fun w' => strClone_any l[k].drop w' hsz.2)
        have HB1 := hide hB1
        obtain ⟨aO, cO, rfl, -, -⟩ := own_shp HO.out
        have hlk : (l.take k).length = k := by simp; omega
        rw [hlk] at HO
        have HLK := hide hlk
        clear b1 hB1
        go_wp2_with fail
        rw [← hW1]
        have HBW := hide (hbel.trans (HB1.out.mono hbel.size))
        have HOW : Hid (∀ w2, Below W1.heap.size W1 w2 → w2.ownsRow w.heap.size 94 3 (.slice aO k cO) k (encP (l.take k))) := hide (fun w2 hb => by
          have h1 := own_below (own_below HO.out HB1.out) hb
          rw [hlk] at h1
          exact h1)
        have KX : Hid (∀ w2, Below W1.heap.size W1 w2 → ∀ o w9, (w2.alloc o).grownBy w9 (Value.slice aO k cO).ownBlock → w9.cell? ⟨wr.heap.size, 0, none⟩ = some (.int .i64 l[k].keep) ∧ w9.cell? ⟨wr.heap.size, 1, none⟩ = some (.string l[k].put) ∧ w9.cell? ⟨wr.heap.size, 2, none⟩ = some (.string l[k].drop)) := hide (fun w2 hb o w9 hg => by
          have hlt9 : wr.heap.size < W1.heap.size := by rw [hW1]; simp
          have e9 : w9.heap[wr.heap.size]? = w2.heap[wr.heap.size]? := (hg.block _ (by have := hb.size; simp; omega) (fun c => by have := (World.ownsRow.lt HO.out _ c.symm).2; omega)).trans (Below.heap_alloc w2 o _ (by have := hb.size; omega))
          obtain ⟨x0, x1, x2⟩ := KC.out w2 hb
          exact ⟨(World.cell?_of_block (a := ⟨wr.heap.size, 0, none⟩) e9).trans x0, (World.cell?_of_block (a := ⟨wr.heap.size, 1, none⟩) e9).trans x1, (World.cell?_of_block (a := ⟨wr.heap.size, 2, none⟩) e9).trans x2⟩)
        clear hW1 c0 c1 c2 hsz hlk
        go_region_held_law (fun w' => w'.cell? ⟨wr.heap.size, 0, none⟩ = some (.int .i64 l[k].keep) ∧ w'.cell? ⟨wr.heap.size, 1, none⟩ = some (.string l[k].put) ∧ w'.cell? ⟨wr.heap.size, 2, none⟩ = some (.string l[k].drop))
          (first | assumption | exact KC.out _ (Below.refl _ _) | exact KC.out _ (Below.refl _ _).drew | exact hk9 | exact KC.out _ hb2 | exact KC.out _ (hb2.alloc hb2.size _) | exact KC.out _ hb1)
          (first
            | (go_at_call 50; refine (CD.out _).mono ?_; rintro e w2 ⟨rfl, hq2⟩; have hb2 : Below W1.heap.size W1 w2 := hb1.trans (hq2.mono hb1.size); clear hq2)
            | (go_at_call 50; refine (CP.out _).mono ?_; rintro e w1 ⟨rfl, hq1⟩; have hb1 : Below W1.heap.size W1 w1 := (Below.refl _ _).drew.trans hq1; clear hq1)
            | (refine step_append_lies _ (by rfl) _ _ _ (by rfl) w.heap.size 94 i0 _ 3 40 Tryd.underlying40 hi0 hz0 hz1 hz2 rfl (by omega) (.slice aO k cO) k (encP (l.take k)) (by rfl) (World.ownsRow.alloc (HOW.out w2 hb2) _) ⟨w2.heap.size, 0, none⟩ 1 1 [.int .i64 l[k].keep, .string l[k].put, .string l[k].drop] (by rfl) (by rfl) (cell3_at _ _ (by simp) _ _ _ _) (by simp [Value.oneCell']) (by omega) (by unfold maxLen; omega) (by omega) (by have := HBW.out.size; have := hb2.size; simp; omega) (w2.heap.size + 1) (by simp) ?_; intro gg cap9 w9 hown' hgrow hat hlt9; have hk9 := KX.out w2 hb2 _ w9 hgrow))
        all_goals
          have hbB := HBW.out.trans (hb2.mono HBW.out.size)
          have hbd := hide (below_append hbB (HOW.out w2 hb2) hbB.size hgrow)
          have hnew := hide (pown_app (l := l.take k) (p := l[k]) (by rw [HLK.out]; exact hown'))
          rw [← List.take_succ_eq_append_getElem hlt] at hnew
          clear hown' hgrow hbB hb1 hb2 HOW HBW KC CP CD KX hk9
          go_wp2
          refine ⟨⟨k + 1, by omega, by go_num, hnew, hbd.out⟩, by simp [intOf]; omega⟩
      · obtain rfl : k = l.length := by omega
        rw [List.take_length] at HO
        go_wp2
        go_ret
        exact ⟨_, rfl, HO.out, hbel⟩
end Go.Proofs.YtpeconmdmddkfaaDoor

set_option linter.unusedVariables false
namespace Go.Proofs.YtpeconmdmddkfaaDoor
open Go.RowKit
open Doc1

/-- One by one. -/
inductive F2 {α β : Type} (R : α → β → Prop) : List α → List β → Prop
  | nil : F2 R [] []
  | cons {a : α} {b : β} {x : List α} {y : List β} (h : R a b) (t : F2 R x y) : F2 R (a :: x) (b :: y)
theorem F2.length_eq {α β : Type} {R : α → β → Prop} {x : List α} {y : List β} (h : F2 R x y) : x.length = y.length := by
  induction h with
  | nil => rfl
  | cons _ _ ih => simp [ih]
/-- A row of changes of one's own, all its blocks from B on. -/
structure CO (B : Nat) (w : World) (v : Value) (vals : List Value) (l : List (List Pt)) : Prop where
  own : w.ownsRow B 97 1 v vals.length vals
  op : F2 (PR w) vals l
  lo : ∀ x ∈ vals, ∀ y, x.ownBlock = some y → B ≤ y ∧ y < w.heap.size ∧ v.ownBlock ≠ some y
  dis : vals.Pairwise (fun a b => ∀ y, a.ownBlock = some y → b.ownBlock ≠ some y)
theorem co_nil (B : Nat) (w : World) : CO B w (.slice none 0 0) [] [] := ⟨World.ownsRow_nil _ _ _ _, .nil, (fun x hx => by cases hx), .nil⟩
theorem CO.len {B : Nat} {w : World} {v : Value} {vals : List Value} {l : List (List Pt)} (h : CO B w v vals l) : vals.length = l.length := h.op.length_eq
theorem forall2_keep {w w1 : World} {vals : List Value} {l : List (List Pt)} (h : F2 (PR w) vals l) (hs : w.heap.size ≤ w1.heap.size) (he : ∀ x ∈ vals, ∀ y, x.ownBlock = some y → y < w.heap.size → w1.heap[y]? = w.heap[y]?) : F2 (PR w1) vals l := by
  induction h with
  | nil => exact .nil
  | cons hx _ ih => exact .cons (hx.keep hs (he _ (List.mem_cons_self))) (ih (fun x hx => he x (List.mem_cons_of_mem _ hx)))
theorem CO.later {B : Nat} {w w1 : World} {v : Value} {vals : List Value} {l : List (List Pt)} (h : CO B w v vals l) (hb : Below w.heap.size w w1) : CO B w1 v vals l :=
  ⟨own_below h.own hb, forall2_keep h.op hb.size (fun x hx y hy hl => hb.block y hl), fun x hx y hy => by
    obtain ⟨h1, h2, h3⟩ := h.lo x hx y hy
    exact ⟨h1, Nat.lt_of_lt_of_le h2 hb.size, h3⟩, h.dis⟩
theorem forall2_app {α β : Type} {R : α → β → Prop} {a : List α} {b : List β} {x : α} {y : β} (h : F2 R a b) (hx : R x y) : F2 R (a ++ [x]) (b ++ [y]) := by
  induction h with
  | nil => exact .cons hx .nil
  | cons h0 _ ih => exact .cons h0 ih
/-- A change is put behind. -/
theorem CO.step {B : Nat} {w w1 w2 : World} {v v' x : Value} {vals : List Value} {l : List (List Pt)} {p : List Pt} {o : Obj} (h : CO B w v vals l) (hB : B ≤ w.heap.size) (hb : Below w.heap.size w w1) (hx : PR w1 x p) (hxl : ∀ y, x.ownBlock = some y → w.heap.size ≤ y ∧ y < w1.heap.size) (hg : (w1.alloc o).grownBy w2 v.ownBlock) (ho : w2.ownsRow B 97 1 v' (vals.length + 1) (vals ++ [x])) (hor : v'.ownBlock = v.ownBlock ∨ ∀ y, v'.ownBlock = some y → (w1.alloc o).heap.size ≤ y) : CO B w2 v' (vals ++ [x]) (l ++ [p]) := by
  have hs1 := hb.size
  have hs2 := hg.size
  rw [World.size_alloc] at hs2
  have hvl : ∀ y, v.ownBlock = some y → y < w.heap.size := fun y hy => (World.ownsRow.lt h.own y hy).2
  have k2 : ∀ y, y < w1.heap.size → v.ownBlock ≠ some y → w2.heap[y]? = w1.heap[y]? := fun y hy hn => (hg.block y (by rw [World.size_alloc]; omega) (fun c => hn c.symm)).trans (Below.heap_alloc _ _ _ hy)
  refine ⟨by rw [List.length_append]; exact ho, forall2_app (forall2_keep h.op (by omega) (fun z hz y hy hl => (k2 y (by omega) (h.lo z hz y hy).2.2).trans (hb.block y hl))) (hx.keep (by omega) (fun y hy hl => k2 y hl (fun c => by have := hvl y c; have := (hxl y hy).1; omega))), ?_, ?_⟩
  · intro z hz y hy
    rcases List.mem_append.1 hz with hz | hz
    · obtain ⟨q1, q2, q3⟩ := h.lo z hz y hy
      refine ⟨q1, by omega, fun c => ?_⟩
      rcases hor with e | e
      · exact q3 (e ▸ c)
      · have := e y c; rw [World.size_alloc] at this; omega
    · simp at hz; subst hz
      obtain ⟨q1, q2⟩ := hxl y hy
      refine ⟨by omega, by omega, fun c => ?_⟩
      rcases hor with e | e
      · rw [e] at c; have := hvl y c; omega
      · have := e y c; rw [World.size_alloc] at this; omega
  · rw [List.pairwise_append]
    refine ⟨h.dis, List.pairwise_singleton _ _, fun a ha b hb y hy c => ?_⟩
    simp at hb; subst hb
    have := (h.lo a ha y hy).2.1
    have := (hxl y c).1
    omega

/-- The blocks of a row of changes. -/
def bl (v : Value) (vals : List Value) : Nat → Prop := fun y => v.ownBlock = some y ∨ ∃ x ∈ vals, x.ownBlock = some y
/-- Read as any row of changes, from the d-th on. -/
theorem forall2_at {w : World} {vals : List Value} {l : List (List Pt)} (h : F2 (PR w) vals l) (i : Nat) (hi : i < l.length) : PR w (vals[i]?.getD undef) l[i] := by
  induction h generalizing i with
  | nil => simp at hi
  | cons h0 _ ih =>
    cases i with
    | zero => exact h0
    | succ i => simpa using ih i (by simpa using hi)
theorem pair_at {vals : List Value} (h : vals.Pairwise (fun a b => ∀ y, a.ownBlock = some y → b.ownBlock ≠ some y)) {i j : Nat} (hij : i < j) (hj : j < vals.length) : ∀ y, (vals[i]?.getD undef).ownBlock = some y → (vals[j]?.getD undef).ownBlock ≠ some y := by
  rw [List.getElem?_eq_getElem (by omega), List.getElem?_eq_getElem hj]
  exact List.pairwise_iff_getElem.1 h i j (by omega) hj hij
theorem CO.drop {B : Nat} {w : World} {v : Value} {vals : List Value} {l : List (List Pt)} (h : CO B w v vals l) (d : Nat) (hd : d < l.length) : ∃ g cap, v = .slice (some ⟨g, 0, none⟩) l.length cap ∧ l.length ≤ cap ∧ cap ≤ maxLen ∧ g < w.heap.size ∧ ∀ c, l.length - d ≤ c → c ≤ maxLen → DR (bl v vals) w (.slice (some ⟨g, d, none⟩) (l.length - d) c) (l.drop d) := by
  have hlen := h.len
  obtain ⟨g, cap, hv, h1, h2, h3, h4, h5, -⟩ := own_cat h.own (by omega)
  rw [hlen] at hv h1
  subst hv
  refine ⟨g, cap, rfl, h1, h2, h4, fun c hc1 hc2 => .inr ⟨g, d, c, fun i => vals[d + i]?.getD undef, by rw [List.length_drop], by rw [List.length_drop]; omega, by rw [List.length_drop]; omega, hc2, h4, .inl rfl, ?_, ?_, ?_, fun i hi hk => by omega, ?_⟩⟩
  · intro i hi
    rw [List.length_drop] at hi
    have : d + i < vals.length := by omega
    rw [List.getElem?_eq_getElem this]
    exact h5 (d + i) _ (List.getElem?_eq_getElem this)
  · intro i hi y hy
    rw [List.length_drop] at hi
    have hlt : d + i < vals.length := by omega
    rw [List.getElem?_eq_getElem hlt] at hy
    obtain ⟨q1, q2, q3⟩ := h.lo _ (List.getElem_mem hlt) y hy
    exact ⟨.inr ⟨_, List.getElem_mem hlt, hy⟩, fun c => q3 (by rw [c]; rfl)⟩
  · intro i j hij hj
    rw [List.length_drop] at hj
    exact pair_at h.dis (by omega) (by omega)
  · intro i hi _
    rw [List.length_drop] at hi
    rw [List.getElem_drop]
    exact forall2_at h.op (d + i) (by omega)
theorem CO.dr {B : Nat} {w : World} {v : Value} {vals : List Value} {l : List (List Pt)} (h : CO B w v vals l) : DR (bl v vals) w v l := by
  rcases Nat.eq_zero_or_pos l.length with h0 | h0
  · obtain rfl := List.eq_nil_of_length_eq_zero h0
    have hlen := h.len
    obtain ⟨a, c, e, -, -⟩ := own_shp h.own
    rw [hlen] at e
    exact .inl ⟨rfl, a, c, e⟩
  · obtain ⟨g, cap, rfl, h1, h2, -, h3⟩ := h.drop 0 h0
    simpa using h3 cap (by omega) h2
theorem co_take {l : List (List Pt)} {k : Nat} (h : k < l.length) : l.take k ++ [l[k]] = l.take (k + 1) := (List.take_succ_eq_append_getElem h).symm

theorem pown_lt {w : World} {B : Nat} {v : Value} {l : List Pt} (h : POwn w B v l) : ∀ y, v.ownBlock = some y → B ≤ y ∧ y < w.heap.size := fun y hy => World.ownsRow.lt h y hy
theorem cell1_at (W : World) (k : Nat) (hk : k = W.heap.size) (a : Value) (t : TypeId) : ∀ j u, [a][j]? = some u → (W.alloc (.cells #[a] t)).cell? ((⟨k, 0, none⟩ : Addr).add j) = some u := by
  subst hk
  intro j u hu
  have hh := heap_alloc_new W (.cells #[a] t)
  rw [addr0]
  unfold World.cell?
  rw [hh]
  match j, hu with
  | 0, hu => simpa using hu

set_option maxRecDepth 100000 in
set_option maxHeartbeats 4000000 in
/-- The program's copies. -/
theorem copyChanges {S : Nat → Prop} {w : World} {v : Value} {l : List (List Pt)} (h : DR S w v l) (hm : SmC l) :
    Calls Tryd.prog 127 #[v] w fun e w' => ∃ v' vals, e = .returned v' ∧ CO w.heap.size w' v' vals l ∧ Below w.heap.size w w' := by
  have hinfo : (Tryd.prog.info? 97).map (fun i => (i.zero, i.size, i.bytes)) = some (some (.agg #[.slice none 0 0]), 1, 24) := by kernel_rfl
  obtain ⟨i0, hi0, hz0, hz1, hz2⟩ := info_parts hinfo
  rcases h with ⟨rfl, a, c, rfl⟩ | ⟨g, off, cap, vs, rfl, h0, a1, a2, a3⟩
  · go_enter Tryd.func127, Tryd.ntmps127
    go_wp2
    go_loop [3, 8] (fun o i => o = .slice none 0 0 ∧ i = .int .i64 0) (fun _ _ => 0)
    case atStart => exact ⟨rfl, rfl⟩
    case round =>
      obtain ⟨rfl, rfl⟩ := hrel
      go_wp2
      go_ret
      exact ⟨_, rfl, ⟨_, co_nil _ _⟩, Below.refl _ _⟩
  · have HD := hide a3
    have HM := hide hm
    have hl := hm.1
    clear a3 hm
    go_enter Tryd.func127, Tryd.ntmps127
    go_wp2
    go_loopw [3, 8] (fun o i wr => ∃ (k : Nat) (vals : List Value), k ≤ l.length ∧ i = .int .i64 k ∧ Hid (CO w.heap.size wr o vals (l.take k)) ∧ Below w.heap.size w wr) (fun _ i _ => l.length - (intOf i).toNat)
    case atStart => exact ⟨0, [], Nat.zero_le _, rfl, hide (by rw [List.take_zero]; exact co_nil _ _), Below.refl _ _⟩
    case round =>
      obtain ⟨k, vals, hk, rfl, HO, hbel⟩ := hrel
      by_cases hlt : k < l.length
      · have hd := HD.out.later hbel
        have c0 := hd.c k hlt
        obtain ⟨ax, cx, ev⟩ := (hd.op k hlt (Nat.zero_le _)).shp
        rw [ev] at c0
        obtain ⟨W1, hW1⟩ : ∃ W1, W1 = wr.alloc (.cells #[.slice ax l[k].length cx] 97) := ⟨_, rfl⟩
        have hB1 : Below wr.heap.size wr W1 := by rw [hW1]; exact (Below.refl _ _).alloc (Nat.le_refl _) _
        have CP := hide (copyOp ((hd.op k hlt (Nat.zero_le _)).later hB1) (HM.out.2 k hlt).1 (HM.out.2 k hlt).2)
        rw [ev] at CP
        have hvl : vals.length = k := by rw [HO.out.len]; simp; omega
        have HV := hide hvl
        have HO1 := hide (HO.out.later hB1)
        have HBW := hide (hbel.trans (hB1.mono hbel.size))
        obtain ⟨aO, cO, rfl, -, -⟩ := own_shp HO.out.own
        clear hd hB1
        go_wp2_with fail
        rw [← hW1]
        clear hW1 c0
        refine CP.out.mono ?_
        rintro e w1 ⟨x, rfl, hx, hb1⟩
        obtain ⟨a9, c9, rfl, -, -⟩ := own_shp hx
        have OW := hide (own_below HO1.out.own hb1)
        have HX := hide hx
        have HB1 := hide hb1
        rw [hvl] at OW
        rw [hvl]
        clear hx hb1 hvl
        go_wp2_with (at_builtin; refine wpList_append_loc _ rfl _ _ 22 rfl w.heap.size 97 i0 (.agg #[.slice none 0 0]) 1 24 Tryd.underlying22 hi0 hz0 hz1 hz2 rfl (by decide) _ _ _ rfl (World.ownsRow.alloc OW.out _) ⟨w1.heap.size, 0, none⟩ 1 1 [.slice a9 l[k].length c9] rfl rfl ?_ ?_ ?_ ?_ ?_ ?_)
        · exact cell1_at _ _ (by simp) _ _
        · intro u hu; simp at hu; subst hu; rfl
        · unfold maxLen; omega
        · omega
        · have := HBW.out.size; have := HB1.out.size; simp; omega
        rintro v' w9 hown' hgrow hor
        have hnew := HO1.out.step HBW.out.size HB1.out (PR.own HX.out) (pown_lt HX.out) (by rw [HV.out]; exact hgrow) (by rw [HV.out]; exact hown') (by rw [HV.out, World.size_alloc]; exact hor)
        rw [co_take hlt] at hnew
        have HN := hide hnew
        have HB9 := hide (below_append (HBW.out.trans (HB1.out.mono HBW.out.size)) OW.out (Nat.le_trans HBW.out.size HB1.out.size) hgrow)
        clear hnew hown' hgrow hor
        go_wp2
        refine ⟨⟨k + 1, _, by omega, by go_num, HN, HB9.out⟩, by simp [intOf]; omega⟩
      · obtain rfl : k = l.length := by omega
        rw [List.take_length] at HO
        go_wp2
        go_ret
        exact ⟨_, vals, rfl, HO.out, hbel⟩
end Go.Proofs.YtpeconmdmddkfaaDoor

set_option linter.unusedVariables false
namespace Go.Proofs.YtpeconmdmddkfaaDoor
open Go.RowKit
open Doc1

theorem run_none_moreP (w : World) (ty : TypeId) (i : TypeInfo) (hi : Tryd.prog.info? 94 = some i) (b : Addr) (ad : Option Addr) (cap : Nat) : (Builtin.append_ #[40, 40] ty #[.slice (some b) 0 0, .slice ad 0 cap]).run Tryd.prog w = .ok (.slice (some b) 0 0) w := by
  cases ad <;> simp [Builtin.append_, run_underlying Tryd.underlying40, sizeOf, typeInfo, hi, Builtin.lenOf, Builtin.firstCells, storeCells, loadCells, loadCellsFrom]
theorem grown_belowP {w w1 : World} {B n sz : Nat} {e : TypeId} {v : Value} {xs : List Value} (hB : B ≤ w.heap.size) (hown : w.ownsRow B e sz v n xs) (hg : w.grownBy w1 v.ownBlock) : Below B w w1 :=
  ⟨hg.os, hg.tape, hg.output, hg.size, fun k hk => hg.block k (by omega) (fun c => by have := (World.ownsRow.lt hown k c.symm).1; omega)⟩

/-- A row of parts copied into an empty one of one's own. -/
theorem append_parts {ops : Array Oper} {rest : List Oper} {o : Oper} {a : Act} {Q : Exit → Act → World → Prop} (w : World) (hgd : o.guard = none) (s x : Operand)
    (ho : o.op = .call { callee := .builtin .append, args := #[s, x], argTypes := #[40, 40] }) (B : Nat) (b : Addr) (o0 : w.ownsRow B 94 3 (.slice (some b) 0 0) 0 []) (ad : Option Addr) (cap : Nat) (l : List Pt) (hl : l.length ≤ 1048576)
    (hs : a.eval s = .slice (some b) 0 0) (hx : a.eval x = .slice ad l.length cap) (hin : PR w (.slice ad l.length cap) l) (hB : B ≤ w.heap.size)
    (h : ∀ v' w', POwn w' B v' l → Below B w w' → wpList Tryd.prog ops Q rest (a.put o.dst v') w') :
    wpList Tryd.prog ops Q (o :: rest) a w := by
  have hinfo : (Tryd.prog.info? 94).map (fun i => (i.zero, i.size, i.bytes)) = some (some (.agg #[.int .i64 0, .string ⟨#[]⟩, .string ⟨#[]⟩]), 3, 40) := by kernel_rfl
  obtain ⟨i0, hi0, hz0, hz1, hz2⟩ := info_parts hinfo
  by_cases h0 : l = []
  · subst h0
    refine wpList_plain hgd fun K hK => ?_
    have hr := run_none_moreP w o.type i0 hi0 b ad cap
    unfold Oper.wp
    simp [execOp, ho, resolve, invoke, builtin, hs, hx, hr, Result.andThen]
    exact hK _ _ (h _ _ o0 (Below.refl _ _))
  · rcases hin with ⟨c, -⟩ | ⟨g, cap', e, -, -, hg, hc, -⟩
    · exact absurd c h0
    · injection e with e1 e2 e3
      subst e1
      have hp := List.length_pos_iff.2 h0
      have hnews : ∀ j u, (encP l)[j]? = some u → w.cell? ((⟨g, 0, none⟩ : Addr).add j) = some u := fun j u hu => by
        rw [addr0]
        exact hc j u hu
      have hone : ∀ u ∈ encP l, u.oneCell' = true := fun u hu => by
        unfold encP at hu
        obtain ⟨b, -, hb2⟩ := List.mem_flatMap.1 hu
        simp [ptC] at hb2
        rcases hb2 with rfl | rfl | rfl <;> rfl
      refine wpList_append_loc _ hgd _ _ 40 ho B 94 i0 (.agg #[.int .i64 0, .string ⟨#[]⟩, .string ⟨#[]⟩]) 3 40 Tryd.underlying40 hi0 hz0 hz1 hz2 rfl (by decide) _ _ _ hs o0 ⟨g, 0, none⟩ l.length cap (encP l) hx (encP_len l) hnews hone (by unfold maxLen; omega) (by omega) hB ?_ hp
      intro v3 w3 own3 grow3 loc3
      rw [Nat.zero_add] at own3
      exact h v3 w3 own3 (grown_belowP hB o0 grow3)
theorem own_none {w : World} {B : Nat} {g : Nat} (hB : B ≤ w.heap.size) (hg : g = w.heap.size) : (w.alloc (.cells #[] 94)).ownsRow B 94 3 (.slice (some ⟨g, 0, none⟩) 0 0) 0 [] := by
  subst hg
  exact World.ownsRow_made w #[] 0 hB (by unfold maxLen; omega) rfl

set_option maxRecDepth 100000 in
set_option maxHeartbeats 4000000 in
/-- The model's copies. -/
theorem ownS {S : Nat → Prop} {w : World} {v : Value} {l : List (List Pt)} (h : DR S w v l) (hm : SmC l) :
    Calls Tryd.prog 79 #[v] w fun e w' => ∃ v' vals, e = .returned v' ∧ CO w.heap.size w' v' vals l ∧ Below w.heap.size w w' := by
  have hinfo : (Tryd.prog.info? 97).map (fun i => (i.zero, i.size, i.bytes)) = some (some (.agg #[.slice none 0 0]), 1, 24) := by kernel_rfl
  obtain ⟨i0, hi0, hz0, hz1, hz2⟩ := info_parts hinfo
  rcases h with ⟨rfl, a, c, rfl⟩ | ⟨g, off, cap, vs, rfl, h0, a1, a2, a3⟩
  · go_enter Tryd.func79, Tryd.ntmps79
    go_wp2
    go_loop [3, 8] (fun o i => o = .slice none 0 0 ∧ i = .int .i64 0) (fun _ _ => 0)
    case atStart => exact ⟨rfl, rfl⟩
    case round =>
      obtain ⟨rfl, rfl⟩ := hrel
      go_wp2
      go_ret
      exact ⟨_, rfl, ⟨_, co_nil _ _⟩, Below.refl _ _⟩
  · have HD := hide a3
    have HM := hide hm
    have hl := hm.1
    clear a3 hm
    go_enter Tryd.func79, Tryd.ntmps79
    go_wp2
    go_loopw [3, 8] (fun o i wr => ∃ (k : Nat) (vals : List Value), k ≤ l.length ∧ i = .int .i64 k ∧ Hid (CO w.heap.size wr o vals (l.take k)) ∧ Below w.heap.size w wr) (fun _ i _ => l.length - (intOf i).toNat)
    case atStart => exact ⟨0, [], Nat.zero_le _, rfl, hide (by rw [List.take_zero]; exact co_nil _ _), Below.refl _ _⟩
    case round =>
      obtain ⟨k, vals, hk, rfl, HO, hbel⟩ := hrel
      by_cases hlt : k < l.length
      · have hd := HD.out.later hbel
        have c0 := hd.c k hlt
        obtain ⟨ax, cx, ev⟩ := (hd.op k hlt (Nat.zero_le _)).shp
        rw [ev] at c0
        have hlk := (HM.out.2 k hlt).1
        have hpr := (hd.op k hlt (Nat.zero_le _))
        rw [ev] at hpr
        obtain ⟨W1, hW1⟩ : ∃ W1, W1 = (wr.alloc (.cells #[.slice ax l[k].length cx] 97)) := ⟨_, rfl⟩
        have hB1 : Below wr.heap.size wr W1 := by rw [hW1]; exact (Below.refl _ _).alloc (Nat.le_refl _) _
        have hcb : CB W1 wr.heap.size #[.slice ax l[k].length cx] := by rw [hW1]; exact CB.new _ _ _
        have hvl : vals.length = k := by rw [HO.out.len]; simp; omega
        have HV := hide hvl
        have HBW := hide (hbel.trans (hB1.mono hbel.size))
        have HO1 := hide (HO.out.later hB1)
        have HPR := hide (hpr.later hB1)
        have HS1 : Hid (wr.heap.size < W1.heap.size) := hide (by rw [hW1]; simp)
        obtain ⟨aO, cO, rfl, -, -⟩ := own_shp HO.out.own
        have kc : ∀ o, (W1.alloc o).cell? ⟨wr.heap.size, 0, none⟩ = some (.slice ax l[k].length cx) := fun o => (hcb.block (Below.heap_alloc _ _ _ HS1.out)).cell 0 rfl
        have KC := hide kc
        rw [hW1] at kc
        have kc2 := kc (.cells #[] 94)
        clear hd hB1 hpr hcb kc
        have ON : Hid ((W1.alloc (.cells #[] 94)).ownsRow W1.heap.size 94 3 (.slice (some ⟨W1.heap.size, 0, none⟩) 0 0) 0 []) := hide (own_none (Nat.le_refl _) rfl)
        have HPA := hide (HPR.out.later ((Below.refl W1.heap.size W1).alloc (Nat.le_refl _) (.cells #[] 94)))
        have hs1e : W1.heap.size = wr.heap.size + 1 := by rw [hW1]; simp
        have HSE := hide hs1e
        have OWA : Hid (∀ w1, Below W1.heap.size W1 w1 → w1.ownsRow w.heap.size 97 1 (.slice aO k cO) k vals) := hide (fun w1 hb => by
          have h1 := own_below HO1.out.own hb
          rw [hvl] at h1
          exact h1)
        rw [hs1e, hW1] at ON
        rw [hW1] at HPA
        rw [hvl]
        clear hvl hs1e
        go_wp2_with (first
          | (at_builtin; refine append_parts _ rfl _ _ rfl (wr.heap.size + 1) ⟨wr.heap.size + 1, 0, none⟩ ON.out ax cx l[k] hlk rfl rfl HPA.out (by simp) ?_; intro x w1 hx hb1; rw [← hW1] at hb1; obtain ⟨a9, c9, rfl, -, -⟩ := own_shp hx; have hb2 : Below W1.heap.size W1 w1 := by rw [← HSE.out] at hb1; exact ((Below.refl _ _).alloc (Nat.le_refl _) _).trans hb1)
          | (at_builtin; refine wpList_append_loc _ rfl _ _ 22 rfl w.heap.size 97 i0 (.agg #[.slice none 0 0]) 1 24 Tryd.underlying22 hi0 hz0 hz1 hz2 rfl (by decide) _ _ _ rfl (World.ownsRow.alloc (OWA.out w1 hb2) _) ⟨w1.heap.size, 0, none⟩ 1 1 [.slice a9 l[k].length c9] rfl rfl (cell1_at _ _ (by simp) _ _) (by intro u hu; simp at hu; subst hu; rfl) (by unfold maxLen; omega) (by omega) (by have := HBW.out.size; have := hb2.size; simp; omega) ?_; intro v' w9 hown' hgrow hor))
        have hx2 : POwn w1 W1.heap.size (.slice a9 l[k].length c9) l[k] := by rw [HSE.out]; exact hx
        have hnew := HO1.out.step HBW.out.size hb2 (PR.own hx2) (pown_lt hx2) (by rw [HV.out]; exact hgrow) (by rw [HV.out]; exact hown') (by rw [HV.out]; exact hor)
        rw [co_take hlt] at hnew
        have HN := hide hnew
        have HB9 := hide (below_append (HBW.out.trans (hb2.mono HBW.out.size)) (OWA.out w1 hb2) (Nat.le_trans HBW.out.size hb2.size) hgrow)
        clear hnew hown' hgrow hor hx hx2 hb1 hb2
        go_wp2
        refine ⟨⟨k + 1, _, by omega, by go_num, HN, HB9.out⟩, by simp [intOf]; omega⟩
      · obtain rfl : k = l.length := by omega
        rw [List.take_length] at HO
        go_wp2
        go_ret
        exact ⟨_, vals, rfl, HO.out, hbel⟩
end Go.Proofs.YtpeconmdmddkfaaDoor

set_option linter.unusedVariables false
namespace Go.Proofs.YtpeconmdmddkfaaDoor
open Go.RowKit
open Doc1

/-- The last twenty. -/
def lst (l : List (List Pt)) : List (List Pt) := l.drop (l.length - 20)

set_option maxRecDepth 100000 in
set_option maxHeartbeats 2000000 in
theorem lastOnes_any {B : Nat} {w : World} {v : Value} {vals : List Value} {l : List (List Pt)} (h : CO B w v vals l) (h0 : 0 < l.length) (hl : l.length ≤ 1048576) :
    Calls Tryd.prog 66 #[v] w fun e w' => ∃ v', e = .returned v' ∧ DR (bl v vals) w v' (lst l) ∧ w' = w := by
  obtain ⟨g, cap, ev, h1, h2, h3, h4⟩ := h.drop (l.length - 20) (by omega)
  obtain ⟨S, hS⟩ : ∃ S, S = bl v vals := ⟨_, rfl⟩
  rw [← hS] at h4 ⊢
  clear hS
  subst ev
  have HD := hide h4
  unfold maxLen at h2
  clear h h4
  by_cases h20 : 20 < l.length
  · obtain ⟨d, hd⟩ : ∃ d : Nat, l.length = d + 20 := ⟨l.length - 20, by omega⟩
    have hdi : (l.length : Int) - 20 = (d : Int) := by omega
    have hmx : max (0 : Int) ((l.length : Int) - 20) = (d : Int) := by omega
    have HF : Hid (DR S w (.slice (some ⟨g, d, none⟩) (l.length - d) (l.length - d)) (lst l)) := hide (by
      have := HD.out (l.length - d) (by omega) (by unfold maxLen; omega)
      unfold lst
      rw [show l.length - 20 = d by omega] at this ⊢
      exact this)
    clear HD
    go_enter Tryd.func66, Tryd.ntmps66
    go_wp2
    go_ret
    exact ⟨_, rfl, by have := HF.out; rw [hd] at this; exact this, rfl⟩
  · have hmx : max (0 : Int) ((l.length : Int) - 20) = 0 := by omega
    have HF : Hid (DR S w (.slice (some ⟨g, 0, none⟩) l.length l.length) (lst l)) := hide (by
      have := HD.out l.length (by omega) (by unfold maxLen; omega)
      unfold lst
      rw [show l.length - 20 = 0 by omega] at this ⊢
      simpa using this)
    clear HD
    go_enter Tryd.func66, Tryd.ntmps66
    go_wp2
    go_ret
    exact ⟨_, rfl, HF.out, rfl⟩

/-- What is cleared: one block alone. -/
theorem run_clearC {w : World} {g n cap : Nat} {cur : Array Value} {ty : TypeId} (h : w.heap[g]? = some (.cells cur 97 (0, 0))) (hn : 0 < n) (hl : n ≤ cur.size) :
    ∃ cs : Array Value, (Builtin.clear_ #[22] ty #[.slice (some ⟨g, 0, none⟩) n cap]).run Tryd.prog w = .ok (.tuple #[]) (w.setRow g cs) := by
  have hinfo : (Tryd.prog.info? 97).map (fun i => (i.zero, i.size, i.bytes)) = some (some (.agg #[.slice none 0 0]), 1, 24) := by kernel_rfl
  obtain ⟨i0, hi0, hz0, hz1, hz2⟩ := info_parts hinfo
  obtain ⟨Z, hZ⟩ : ∃ Z, Z = (Builtin.zeroCells (Value.agg #[.slice none 0 0]).cells n).toList := ⟨_, rfl⟩
  have zl : Z.length = n := by rw [hZ]; simp [Builtin.zeroCells, Value.cells]
  have z1 : ∀ v ∈ Z, v.oneCell' = true := by
    intro v hv
    rw [hZ] at hv
    simp only [Builtin.zeroCells, Value.cells, Array.toList_map, List.mem_map] at hv
    obtain ⟨j, -, rfl⟩ := hv
    have : j % 1 = 0 := by omega
    simp [this, Value.oneCell']
  have hst := run_storeCells_at Tryd.prog g 0 97 Z 0 cur w h (by simp; omega) z1
  obtain ⟨C, hC⟩ : ∃ C, C = (List.take (0 + 0) cur.toList ++ Z ++ List.drop (0 + 0 + Z.length) cur.toList).toArray := ⟨_, rfl⟩
  rw [← hC] at hst
  refine ⟨C, ?_⟩
  obtain ⟨m, rfl⟩ : ∃ m, n = m + 1 := ⟨n - 1, by omega⟩
  unfold Builtin.clear_
  simp [run_underlying Tryd.underlying22, zeroValue, typeInfo, hi0, hz0, ← hZ, hst]
theorem wpList_clearC {ops : Array Oper} {rest : List Oper} {o : Oper} {a : Act} {w : World} {Q : Exit → Act → World → Prop} (hgd : o.guard = none) (s : Operand)
    (ho : o.op = .call { callee := .builtin .clear, args := #[s], argTypes := #[22] }) {g n cap : Nat} {cur : Array Value} (hs : a.eval s = .slice (some ⟨g, 0, none⟩) n cap) (hr : w.heap[g]? = some (.cells cur 97 (0, 0))) (hn : 0 < n) (hl : n ≤ cur.size)
    (h : ∀ cs : Array Value, wpList Tryd.prog ops Q rest (a.put o.dst (.tuple #[])) (w.setRow g cs)) : wpList Tryd.prog ops Q (o :: rest) a w := by
  refine wpList_plain hgd fun K hK => ?_
  obtain ⟨cs', h3⟩ := run_clearC (ty := o.type) (cap := cap) hr hn hl
  unfold Oper.wp execOp
  simp only [ho, resolve, invoke, builtin, Sem.run_bind, Sem.run_pure, Result.andThen_ok, List.map_toArray, List.map_cons, List.map_nil, hs, h3]
  exact hK _ _ (h cs')

theorem run_clear0 (w : World) (ad : Option Addr) (cap : Nat) (ty : TypeId) : (Builtin.clear_ #[22] ty #[.slice ad 0 cap]).run Tryd.prog w = .ok (.tuple #[]) w := by
  unfold Builtin.clear_
  cases ad <;> simp [run_underlying Tryd.underlying22]

set_option maxRecDepth 100000 in
set_option maxHeartbeats 2000000 in
theorem cutAll {B : Nat} {w : World} {v : Value} {n : Nat} {xs : List Value} (h : w.ownsRow B 97 1 v n xs) (hn : n ≤ 1048576) :
    Calls Tryd.prog 67 #[v, .int .i64 0] w fun e w' => ∃ a, e = .returned (.slice a 0 0) ∧ w.grownBy w' v.ownBlock := by
  rcases h.2 with ⟨rfl, rfl⟩ | ⟨g, cap, cur, rfl, h1, h2, h3, h4, h5, -⟩
  · clear h
    have hcl : ∀ w, (Builtin.clear_ #[22] 0 #[.slice none 0 0]).run Tryd.prog w = .ok (.tuple #[]) w := fun w => run_clear0 w none 0 0
    go_enter Tryd.func67, Tryd.ntmps67
    go_wp2
    go_ret
    exact ⟨_, rfl, grown_self _ _⟩
  · clear h
    unfold maxLen at h4
    rcases Nat.eq_zero_or_pos n with h0 | h0
    · subst h0
      have hcl : ∀ w, (Builtin.clear_ #[22] 0 #[.slice (some ⟨g, 0, none⟩) 0 cap]).run Tryd.prog w = .ok (.tuple #[]) w := fun w => run_clear0 w _ cap 0
      go_enter Tryd.func67, Tryd.ntmps67
      go_wp2
      go_ret
      exact ⟨_, rfl, grown_self _ _⟩
    · go_enter Tryd.func67, Tryd.ntmps67
      go_wp2_with (refine wpList_clearC (by rfl) _ (by rfl) (g := g) (n := n) (cap := cap) (cur := cur) (by rfl) h2 h0 (by omega) ?_; intro cs)
      go_ret
      exact ⟨_, rfl, ⟨rfl, rfl, rfl, by simp, fun k hk hne => setRow_other _ _ _ _ (fun e => hne (by rw [e]; rfl))⟩⟩
end Go.Proofs.YtpeconmdmddkfaaDoor

set_option linter.unusedVariables false
namespace Go.Proofs.YtpeconmdmddkfaaDoor
open Go.RowKit
open Doc1

theorem results_tct {P : Program} {fn : Func} {p q r : Tmp} {ty : TypeId} (h : fn.results = #[.tmp r, .cell p ty, .tmp q]) (tmps : Array Value) (w : World) (g : Nat) (t : TypeId) (cs : Array Value) (fr : Nat × Nat) (d : TypeDesc) (x y : Value)
    (hr : tmps.getD r undef = y) (hp : tmps.getD p undef = .pointer (some ⟨g, 0, none⟩)) (hq : tmps.getD q undef = x) (hg : w.heap[g]? = some (.cells cs t fr))
    (hu : P.underlying ty = some d) (hd : (match d with | .struct _ | .array _ _ => true | _ => false) = true) (hi : (P.info? ty).map (·.size) = some cs.size) :
    (results fn tmps).run P w = .ok (.tuple #[y, .agg cs, x]) w := by
  have hp' : tmps[p]?.getD undef = .pointer (some ⟨g, 0, none⟩) := by simpa using hp
  have hq' : tmps[q]?.getD undef = x := by simpa using hq
  have hr' : tmps[r]?.getD undef = y := by simpa using hr
  simp [results, h, hp', hq', hr', asAddr, run_loadVar_row w g t ty cs fr d hg hu hd hi]

/-- What a copy of a history is. -/
def ChPost (w : World) (t : ByteArray) (u r : List (List Pt)) (e : Ending) (w' : World) : Prop :=
  ∃ xu xr zu zr m, e = .returned (.agg #[.string t, xu, xr]) ∧ w.heap.size ≤ m ∧ m ≤ w'.heap.size ∧ CO w.heap.size w' xu zu u ∧ (∀ y, xu.ownBlock = some y → y < m) ∧ (∀ x ∈ zu, ∀ y, x.ownBlock = some y → y < m) ∧ CO m w' xr zr r ∧ Below w.heap.size w w'

theorem CO.low {B : Nat} {w : World} {v : Value} {vals : List Value} {l : List (List Pt)} (h : CO B w v vals l) : (∀ y, v.ownBlock = some y → y < w.heap.size) ∧ ∀ x ∈ vals, ∀ y, x.ownBlock = some y → y < w.heap.size :=
  ⟨fun y hy => (World.ownsRow.lt h.own y hy).2, fun x hx y hy => (h.lo x hx y hy).2.1⟩
theorem CO.block {B : Nat} {w w1 : World} {v : Value} {vals : List Value} {l : List (List Pt)} (h : CO B w v vals l) (hs : w.heap.size ≤ w1.heap.size) (he : ∀ y, B ≤ y → y < w.heap.size → w1.heap[y]? = w.heap[y]?) : CO B w1 v vals l := by
  refine ⟨?_, forall2_keep h.op hs (fun x hx y hy hl => he y (h.lo x hx y hy).1 hl), fun x hx y hy => by
    obtain ⟨h1, h2, h3⟩ := h.lo x hx y hy
    exact ⟨h1, Nat.lt_of_lt_of_le h2 hs, h3⟩, h.dis⟩
  obtain ⟨h1, h2⟩ := h.own
  refine ⟨h1, h2.imp id ?_⟩
  rintro ⟨g, cap, cur, e1, e2, e3, e4⟩
  exact ⟨g, cap, cur, e1, e2, (he g e2 (Array.getElem?_eq_some_iff.1 e3).1).trans e3, e4⟩
theorem CO.set {B : Nat} {w : World} {v : Value} {vals : List Value} {l : List (List Pt)} (h : CO B w v vals l) {b j : Nat} (hb : b < B) (x : Value) : CO B (w.setCell ⟨b, j, none⟩ x) v vals l :=
  h.block (by simp [World.setCell]) (fun y hy _ => Below.heap_setCell _ _ _ _ (by show y ≠ b; omega))

theorem CO.lower {B B' : Nat} {w : World} {v : Value} {vals : List Value} {l : List (List Pt)} (h : CO B w v vals l) (hB : B' ≤ B) : CO B' w v vals l :=
  ⟨own_mono h.own hB, h.op, fun x hx y hy => by obtain ⟨h1, h2, h3⟩ := h.lo x hx y hy; exact ⟨by omega, h2, h3⟩, h.dis⟩

set_option maxRecDepth 100000 in
set_option maxHeartbeats 4000000 in
theorem copyHist {lo hi : Nat} {w : World} {vu vr : Value} {t : ByteArray} {u r : List (List Pt)} (h : HX lo hi w vu vr u r) (ht : t.size ≤ 1048576) (mu : SmC u) (mr : SmC r) :
    Calls Tryd.prog 65 #[.agg #[.string t, vu, vr]] w fun e w' => ChPost w t u r e w' := by
  obtain ⟨S, T, h1, h2, -, -⟩ := h
  obtain ⟨a1, c1, e1⟩ := h1.shp
  obtain ⟨a2, c2, e2⟩ := h2.shp
  subst e1 e2
  obtain ⟨W1, hW1⟩ : ∃ W1, W1 = (w.alloc (.cells #[.string t, .slice a1 u.length c1, .slice a2 r.length c2] 24)).alloc (.cells #[.string ⟨#[]⟩, .slice none 0 0, .slice none 0 0] 24) := ⟨_, rfl⟩
  obtain ⟨k1, k2, k3, k4⟩ := cb_two w #[.string t, .slice a1 u.length c1, .slice a2 r.length c2] #[.string ⟨#[]⟩, .slice none 0 0, .slice none 0 0] 24 24
  rw [← hW1] at k1 k2 k3 k4
  have CL := hide (fun w' => strClone_any t w' ht)
  have CU : Hid (∀ w', Below W1.heap.size W1 w' → _) := hide (fun w' (hb : Below W1.heap.size W1 w') => copyChanges ((h1.later k3).later hb) mu)
  have CR : Hid (∀ w', Below W1.heap.size W1 w' → _) := hide (fun w' (hb : Below W1.heap.size W1 w') => copyChanges ((h2.later k3).later hb) mr)
  have KC : Hid (∀ w', Below W1.heap.size W1 w' → w'.cell? ⟨w.heap.size, 0, none⟩ = some (.string t) ∧ w'.cell? ⟨w.heap.size, 1, none⟩ = some (.slice a1 u.length c1) ∧ w'.cell? ⟨w.heap.size, 2, none⟩ = some (.slice a2 r.length c2)) := hide (fun w' hb => ⟨(k1.later hb).cell 0 rfl, (k1.later hb).cell 1 rfl, (k1.later hb).cell 2 rfl⟩)
  have KS : Hid (∀ w', Below W1.heap.size W1 w' → ∀ x y z, (((w'.setCell ⟨w.heap.size + 1, 0, none⟩ x).setCell ⟨w.heap.size + 1, 1, none⟩ y).setCell ⟨w.heap.size + 1, 2, none⟩ z).cell? ⟨w.heap.size, 0, none⟩ = some (.string t) ∧ (((w'.setCell ⟨w.heap.size + 1, 0, none⟩ x).setCell ⟨w.heap.size + 1, 1, none⟩ y).setCell ⟨w.heap.size + 1, 2, none⟩ z).cell? ⟨w.heap.size, 1, none⟩ = some (.slice a1 u.length c1) ∧ (((w'.setCell ⟨w.heap.size + 1, 0, none⟩ x).setCell ⟨w.heap.size + 1, 1, none⟩ y).setCell ⟨w.heap.size + 1, 2, none⟩ z).cell? ⟨w.heap.size, 2, none⟩ = some (.slice a2 r.length c2)) := hide (fun w' hb x y z => by
    have q := (((k1.later hb).other (d := w.heap.size + 1) (by omega) 0 x).other (d := w.heap.size + 1) (by omega) 1 y).other (d := w.heap.size + 1) (by omega) 2 z
    exact ⟨q.cell 0 rfl, q.cell 1 rfl, q.cell 2 rfl⟩)
  have KD : Hid (∀ w', Below W1.heap.size W1 w' → ∀ x y, (w'.cell? ⟨w.heap.size + 1, 0, none⟩ = some (.string ⟨#[]⟩) ∧ w'.frozen? ⟨w.heap.size + 1, 0, none⟩ = false) ∧ ((w'.setCell ⟨w.heap.size + 1, 0, none⟩ x).cell? ⟨w.heap.size + 1, 1, none⟩ = some (.slice none 0 0) ∧ (w'.setCell ⟨w.heap.size + 1, 0, none⟩ x).frozen? ⟨w.heap.size + 1, 1, none⟩ = false) ∧ ((w'.setCell ⟨w.heap.size + 1, 0, none⟩ x).setCell ⟨w.heap.size + 1, 1, none⟩ y).cell? ⟨w.heap.size + 1, 2, none⟩ = some (.slice none 0 0) ∧ ((w'.setCell ⟨w.heap.size + 1, 0, none⟩ x).setCell ⟨w.heap.size + 1, 1, none⟩ y).frozen? ⟨w.heap.size + 1, 2, none⟩ = false) := hide (fun w' hb x y => by
    have q := k2.later hb
    have q1 := q.set 0 x rfl
    have q2 := q1.set 1 y rfl
    exact ⟨⟨q.cell 0 rfl, q.fz 0⟩, ⟨q1.cell 1 rfl, q1.fz 1⟩, q2.cell 2 rfl, q2.fz 2⟩)
  have K2 := hide k2
  have HB := hide k3
  have HS := hide k4
  clear h1 h2 mu mr k1 k2 k3 k4 ht
  go_enter Tryd.func65, Tryd.ntmps65
  go_wp2_with fail
  rw [← hW1]
  clear hW1
  go_region_held3 (fun w' => w'.cell? ⟨w.heap.size, 0, none⟩ = some (.string t) ∧ w'.cell? ⟨w.heap.size, 1, none⟩ = some (.slice a1 u.length c1) ∧ w'.cell? ⟨w.heap.size, 2, none⟩ = some (.slice a2 r.length c2))
    (first | assumption | exact KC.out _ (Below.refl _ _) | exact KC.out _ (Below.refl _ _).drew | exact KS.out _ hb3 _ _ _ | exact KC.out _ hb3 | exact KC.out _ hb2 | exact KC.out _ hb1
    )
    (first
      | (go_at_call 127; refine (CR.out _ hb2).mono ?_; rintro e w3 ⟨xr, zr, rfl, cr, hq3⟩; have hb3 : Below W1.heap.size W1 w3 := hb2.trans (hq3.mono hb2.size); obtain ⟨ar, mr, rfl, -, -⟩ := own_shp cr.own; obtain ⟨⟨p0, p1⟩, ⟨p2, p3⟩, p4, p5⟩ := KD.out w3 hb3 (.string t) (.slice au zu.length mu))
      | (go_at_call 127; refine (CU.out _ hb1).mono ?_; rintro e w2 ⟨xu, zu, rfl, cu, hq2⟩; have hb2 : Below W1.heap.size W1 w2 := hb1.trans (hq2.mono hb1.size); obtain ⟨au, mu, rfl, -, -⟩ := own_shp cu.own)
      | (go_at_call 50; refine (CL.out _).mono ?_; rintro e w1 ⟨rfl, hq1⟩; have hb1 : Below W1.heap.size W1 w1 := (Below.refl _ _).drew.trans hq1; clear hq1))
  all_goals
    have hS := HS.out
    have D := ((((K2.out.later hb3).set 0 (.string t) rfl).set 1 (.slice au zu.length mu) rfl).set 2 (.slice ar zr.length mr) rfl)
    have hB3 := HB.out.trans (hb3.mono HB.out.size)
    have HE := hide (((hB3.setCell (p := ⟨w.heap.size + 1, 0, none⟩) (by show w.heap.size ≤ w.heap.size + 1; omega) (.string t)).setCell (p := ⟨w.heap.size + 1, 1, none⟩) (by show w.heap.size ≤ w.heap.size + 1; omega) (.slice au zu.length mu)).setCell (p := ⟨w.heap.size + 1, 2, none⟩) (by show w.heap.size ≤ w.heap.size + 1; omega) (.slice ar zr.length mr))
    have hm1 : W1.heap.size ≤ w1.heap.size := hb1.size
    have hm2 : w1.heap.size ≤ w2.heap.size := hq2.size
    have hm3 : w2.heap.size ≤ w3.heap.size := hq3.size
    have HU0 : CO w1.heap.size (((w3.setCell ⟨w.heap.size + 1, 0, none⟩ (.string t)).setCell ⟨w.heap.size + 1, 1, none⟩ (.slice au zu.length mu)).setCell ⟨w.heap.size + 1, 2, none⟩ (.slice ar zr.length mr)) (.slice au zu.length mu) zu u := (((cu.later hq3).set (by omega) _).set (by omega) _).set (by omega) _
    have HR := hide (((cr.set (b := w.heap.size + 1) (j := 0) (by omega) (.string t)).set (b := w.heap.size + 1) (j := 1) (by omega) (.slice au zu.length mu)).set (b := w.heap.size + 1) (j := 2) (by omega) (.slice ar zr.length mr))
    have HL := hide cu.low
    have HM : Hid (w.heap.size ≤ w2.heap.size ∧ w2.heap.size ≤ w3.heap.size ∧ w.heap.size ≤ w1.heap.size) := hide ⟨by omega, hm3, by omega⟩
    have HU := hide HU0
    have HDD := hide D
    clear D HU0 cu cr hb1 hb2 hb3 hq2 hq3 p0 p1 p2 p3 p4 p5 hm1 hm2 hm3 hB3 hS
    go_wp2
    obtain ⟨tt, htt⟩ := HDD.out
    refine bodyPost_ret (results_cell_row rfl _ _ (w.heap.size + 1) _ _ (0, 0) _ rfl htt Tryd.underlying24 rfl Tryd.sizeHistory) rfl ?_
    exact ⟨_, _, zu, zr, w2.heap.size, rfl, HM.out.1, by simpa [World.setCell] using HM.out.2.1, HU.out.lower HM.out.2.2, HL.out.1, HL.out.2, HR.out, HE.out⟩
end Go.Proofs.YtpeconmdmddkfaaDoor

set_option linter.unusedVariables false
namespace Go.Proofs.YtpeconmdmddkfaaDoor
open Go.RowKit
open Doc1

theorem cb_one (w : World) (a : Array Value) (t : TypeId) : CB (w.alloc (.cells a t)) w.heap.size a ∧ Below w.heap.size w (w.alloc (.cells a t)) := ⟨CB.new w a t, (Below.refl _ _).alloc (Nat.le_refl _) _⟩

set_option maxRecDepth 100000 in
set_option maxHeartbeats 4000000 in
theorem doInv {w : World} {v : Value} {op : List Pt} {s : ByteArray} (h : PR w v op) (hl : op.length ≤ 1048576) (hs : ∀ j (hj : j < op.length), op[j].put.size ≤ 1048576 ∧ op[j].drop.size ≤ 1048576) (hss : s.size ≤ 1048576) (hT : Tab w) :
    Calls Tryd.prog 64 #[v, .string s] w fun e w' => ∃ x, e = .returned (.tuple #[.string (aplO op s).1, .agg #[x], .bool (aplO op s).2]) ∧ POwn w' w.heap.size x (if (aplO op s).2 then invO op else []) ∧ Below w.heap.size w w' := by
  obtain ⟨aw, g, cap, rfl, hp⟩ := h.pin (Nat.lt_of_le_of_lt (Nat.zero_le _) hT.lt) hl hs
  obtain ⟨W1, hW1⟩ : ∃ W1, W1 = w.alloc (.cells #[.slice none 0 0] 97) := ⟨_, rfl⟩
  obtain ⟨k1, k3⟩ := cb_one w #[.slice none 0 0] 97
  rw [← hW1] at k1 k3
  have AP := hide (applyI s (hp.later k3) (hT.below k3) hss)
  have IV : Hid (∀ w', Below W1.heap.size W1 w' → _) := hide (fun w' (hb : Below W1.heap.size W1 w') => invertI ((hp.later k3).later hb) ((hT.below k3).below hb))
  have K1 := hide k1
  have HB := hide k3
  have HS : Hid (W1.heap.size = w.heap.size + 1) := hide (by rw [hW1]; simp)
  have hemp : (aplO op s).2 = false → (aplO op s).1 = ⟨#[]⟩ := fun c => by
    unfold aplO at c ⊢
    split
    · rename_i hh; rw [if_pos hh] at c; cases c
    · rfl
  have HEM := hide hemp
  clear h hp hT hl hs k1 k3 hemp
  cases hok : (aplO op s).2 with
  | false =>
    have hT0 := HEM.out hok
    rw [hok, hT0] at AP
    rw [hT0]
    clear hok hT0 IV
    go_enter Tryd.func64, Tryd.ntmps64
    go_wp2_with fail
    rw [← hW1]
    clear hW1
    refine AP.out.mono ?_
    rintro e w2 ⟨rfl, hb2⟩
    have c0 := (K1.out.later hb2).cell 0 rfl
    have f0 := (K1.out.later hb2).fz 0
    have D := hide ((K1.out.later hb2).set 0 (.slice none 0 0) rfl)
    have HE := hide ((HB.out.trans (hb2.mono HB.out.size)).setCell (p := ⟨w.heap.size, 0, none⟩) (Nat.le_refl _) (.slice none 0 0))
    simp only [List.getElem_toArray, List.getElem_cons_zero] at c0
    clear hb2
    go_wp2
    obtain ⟨tt, htt⟩ := D.out
    refine bodyPost_ret (results_tct rfl _ _ w.heap.size _ _ (0, 0) _ (.bool false) (.string ⟨#[]⟩) rfl rfl rfl htt Tryd.underlying97 rfl Tryd.sizeChange) rfl ?_
    exact ⟨_, rfl, World.ownsRow_nil _ _ _ _, HE.out⟩
  | true =>
    rw [hok] at AP
    obtain ⟨T, hTe⟩ : ∃ T, (aplO op s).1 = T := ⟨_, rfl⟩
    rw [hTe] at AP ⊢
    clear hok hTe HEM
    go_enter Tryd.func64, Tryd.ntmps64
    go_wp2_with fail
    rw [← hW1]
    clear hW1
    refine AP.out.mono ?_
    rintro e w2 ⟨rfl, hb2⟩
    have IV2 := hide (IV.out w2 hb2)
    clear IV AP
    go_wp2_with fail
    refine IV2.out.mono ?_
    rintro e w3 ⟨x, rfl, hx, hb3⟩
    obtain ⟨a9, c9, rfl, -, -⟩ := own_shp hx
    have hbb := hb2.trans (hb3.mono hb2.size)
    have c0 := (K1.out.later hbb).cell 0 rfl
    have f0 := (K1.out.later hbb).fz 0
    have D := hide ((K1.out.later hbb).set 0 (.slice a9 (invO op).length c9) rfl)
    have HE := hide ((HB.out.trans (hbb.mono HB.out.size)).setCell (p := ⟨w.heap.size, 0, none⟩) (Nat.le_refl _) (.slice a9 (invO op).length c9))
    have hsz : w.heap.size < w2.heap.size := by have := HS.out; have := hb2.size; omega
    have HX := hide (own_mono (own_aside hx hsz 0 (.slice a9 (invO op).length c9)) (show w.heap.size ≤ w2.heap.size by omega))
    simp only [List.getElem_toArray, List.getElem_cons_zero] at c0
    clear hb2 hb3 hx hbb hsz
    go_wp2
    obtain ⟨tt, htt⟩ := D.out
    refine bodyPost_ret (results_tct rfl _ _ w.heap.size _ _ (0, 0) _ (.bool true) (.string T) rfl rfl rfl htt Tryd.underlying97 rfl Tryd.sizeChange) rfl ?_
    exact ⟨_, rfl, HX.out, HE.out⟩

/-- What DoChange tells. -/
def dcB (t : ByteArray) (u r : List (List Pt)) (op : List Pt) : Bool := goodH t u r && (aplO op t).2
def dcT (t : ByteArray) (u r : List (List Pt)) (op : List Pt) : ByteArray := if dcB t u r op then (aplO op t).1 else ⟨#[]⟩
def dcU (t : ByteArray) (u r : List (List Pt)) (op : List Pt) : List (List Pt) := if dcB t u r op then lst (u ++ [invO op]) else []
def dcR (_ : ByteArray) (_ _ : List (List Pt)) (_ : List Pt) : List (List Pt) := []

theorem CB.put3 {w : World} {b : Nat} {x y z : Value} (h : CB w b #[x, y, z]) (x' y' z' : Value) :
    (w.cell? ⟨b, 0, none⟩ = some x ∧ w.frozen? ⟨b, 0, none⟩ = false) ∧ ((w.setCell ⟨b, 0, none⟩ x').cell? ⟨b, 1, none⟩ = some y ∧ (w.setCell ⟨b, 0, none⟩ x').frozen? ⟨b, 1, none⟩ = false) ∧ (((w.setCell ⟨b, 0, none⟩ x').setCell ⟨b, 1, none⟩ y').cell? ⟨b, 2, none⟩ = some z ∧ ((w.setCell ⟨b, 0, none⟩ x').setCell ⟨b, 1, none⟩ y').frozen? ⟨b, 2, none⟩ = false) ∧ CB (((w.setCell ⟨b, 0, none⟩ x').setCell ⟨b, 1, none⟩ y').setCell ⟨b, 2, none⟩ z') b #[x', y', z'] := by
  have q1 := h.set 0 x' rfl
  have q2 := q1.set 1 y' rfl
  exact ⟨⟨h.cell 0 rfl, h.fz 0⟩, ⟨q1.cell 1 rfl, q1.fz 1⟩, ⟨q2.cell 2 rfl, q2.fz 2⟩, q2.set 2 z' rfl⟩
theorem below3 {B : Nat} {w w1 : World} {b : Nat} (h : Below B w w1) (hb : B ≤ b) (x y z : Value) : Below B w (((w1.setCell ⟨b, 0, none⟩ x).setCell ⟨b, 1, none⟩ y).setCell ⟨b, 2, none⟩ z) :=
  ((h.setCell (p := ⟨b, 0, none⟩) hb x).setCell (p := ⟨b, 1, none⟩) hb y).setCell (p := ⟨b, 2, none⟩) hb z
theorem DR.set3 {S : Nat → Prop} {w : World} {v : Value} {l : List (List Pt)} (h : DR S w v l) {b : Nat} (hb : ¬ S b) (x y z : Value) : DR S (((w.setCell ⟨b, 0, none⟩ x).setCell ⟨b, 1, none⟩ y).setCell ⟨b, 2, none⟩ z) v l := ((h.set hb x).set hb y).set hb z
/-- A change is put behind, wherever it lies. -/
theorem CO.stepG {B : Nat} {w w2 : World} {v v' x : Value} {vals : List Value} {l : List (List Pt)} {p : List Pt} {o : Obj} (h : CO B w v vals l) (hx : PR w x p) (hxl : ∀ y, x.ownBlock = some y → B ≤ y ∧ y < w.heap.size ∧ v.ownBlock ≠ some y ∧ ∀ a ∈ vals, a.ownBlock ≠ some y) (hg : (w.alloc o).grownBy w2 v.ownBlock) (ho : w2.ownsRow B 97 1 v' (vals.length + 1) (vals ++ [x])) (hor : v'.ownBlock = v.ownBlock ∨ ∀ y, v'.ownBlock = some y → (w.alloc o).heap.size ≤ y) : CO B w2 v' (vals ++ [x]) (l ++ [p]) := by
  have hs2 := hg.size
  rw [World.size_alloc] at hs2
  have hvl : ∀ y, v.ownBlock = some y → y < w.heap.size := fun y hy => (World.ownsRow.lt h.own y hy).2
  have k2 : ∀ y, y < w.heap.size → v.ownBlock ≠ some y → w2.heap[y]? = w.heap[y]? := fun y hy hn => (hg.block y (by rw [World.size_alloc]; omega) (fun c => hn c.symm)).trans (Below.heap_alloc _ _ _ hy)
  refine ⟨by rw [List.length_append]; exact ho, forall2_app (forall2_keep h.op (by omega) (fun z hz y hy hl => k2 y hl (h.lo z hz y hy).2.2)) (hx.keep (by omega) (fun y hy hl => k2 y hl (hxl y hy).2.2.1)), ?_, ?_⟩
  · intro z hz y hy
    have key : B ≤ y ∧ y < w.heap.size ∧ v.ownBlock ≠ some y := by
      rcases List.mem_append.1 hz with hz | hz
      · exact h.lo z hz y hy
      · simp at hz; subst hz
        obtain ⟨q1, q2, q3, -⟩ := hxl y hy
        exact ⟨q1, q2, q3⟩
    refine ⟨key.1, by omega, fun c => ?_⟩
    rcases hor with e | e
    · exact key.2.2 (e ▸ c)
    · have := e y c; rw [World.size_alloc] at this; omega
  · rw [List.pairwise_append]
    refine ⟨h.dis, List.pairwise_singleton _ _, fun a ha b hb y hy c => ?_⟩
    simp at hb; subst hb
    exact (hxl y c).2.2.2 a ha hy
end Go.Proofs.YtpeconmdmddkfaaDoor

set_option linter.unusedVariables false
namespace Go.Proofs.YtpeconmdmddkfaaDoor
open Go.RowKit
open Doc1

theorem below_grow {B : Nat} {w w1 w2 : World} {o : Obj} {r : Option Nat} (h : Below B w w1) (hB : B ≤ w1.heap.size) (hg : (w1.alloc o).grownBy w2 r) (hr : ∀ y, r = some y → B ≤ y) : Below B w w2 :=
  ⟨hg.os.trans h.os, hg.tape.trans h.tape, hg.output.trans h.output, by have h1 := hg.size; have h2 := h.size; rw [World.size_alloc] at h1; omega, fun k hk => (hg.block k (by rw [World.size_alloc]; omega) (fun c => by have := hr k c.symm; omega)).trans ((Below.heap_alloc _ _ _ (by omega)).trans (h.block k hk))⟩
theorem below_grown {B : Nat} {w w1 w2 : World} {r : Option Nat} (h : Below B w w1) (hB : B ≤ w1.heap.size) (hg : w1.grownBy w2 r) (hr : ∀ y, r = some y → B ≤ y) : Below B w w2 :=
  ⟨hg.os.trans h.os, hg.tape.trans h.tape, hg.output.trans h.output, Nat.le_trans h.size hg.size, fun k hk => (hg.block k (by omega) (fun c => by have := hr k c.symm; omega)).trans (h.block k hk)⟩
theorem CB.grow {w w2 : World} {o : Obj} {r : Option Nat} {c : Nat} {cs : Array Value} (h : CB w c cs) (hg : (w.alloc o).grownBy w2 r) (hr : r ≠ some c) : CB w2 c cs :=
  h.block ((hg.block c (by rw [World.size_alloc]; have := h.lt; omega) (Ne.symm hr)).trans (Below.heap_alloc _ _ _ h.lt))
theorem CB.grown {w w2 : World} {r : Option Nat} {c : Nat} {cs : Array Value} (h : CB w c cs) (hg : w.grownBy w2 r) (hr : r ≠ some c) : CB w2 c cs := h.block (hg.block c h.lt (Ne.symm hr))

set_option maxRecDepth 100000 in
set_option maxHeartbeats 8000000 in
theorem doI {lo hi : Nat} {w : World} {vu vr vo : Value} {t : ByteArray} {u r : List (List Pt)} {op : List Pt} (h : HX lo hi w vu vr u r) (ht : t.size ≤ 1048576) (mu : SmC u) (mr : SmC r) (hp : PR w vo op) (hl : op.length ≤ 1048576) (hs : ∀ j (hj : j < op.length), op[j].put.size ≤ 1048576 ∧ op[j].drop.size ≤ 1048576) (hT : Tab w) (hlo : 0 < lo) :
    Calls Tryd.prog 21 #[.agg #[.string t, vu, vr], vo] w fun e w' => HPost w (dcT t u r op) (dcU t u r op) (dcR t u r op) (dcB t u r op) e w' := by
  obtain ⟨a1, c1, a2, c2, rfl, rfl⟩ := h.shp
  obtain ⟨ao, co, rfl⟩ := hp.shp
  obtain ⟨W1, hW1⟩ : ∃ W1, W1 = (w.alloc (.cells #[.string t, .slice a1 u.length c1, .slice a2 r.length c2] 24)).alloc (.cells #[.string ⟨#[]⟩, .slice none 0 0, .slice none 0 0] 24) := ⟨_, rfl⟩
  obtain ⟨k1, k2, k3, k4⟩ := cb_two w #[.string t, .slice a1 u.length c1, .slice a2 r.length c2] #[.string ⟨#[]⟩, .slice none 0 0, .slice none 0 0] 24 24
  rw [← hW1] at k1 k2 k3 k4
  have G := hide (goodHI (t := t) (h.later k3) ht mu mr (hT.below k3) hlo)
  have DI : Hid (∀ w', Below W1.heap.size W1 w' → _) := hide (fun w' (hb : Below W1.heap.size W1 w') => doInv (s := t) ((hp.later k3).later hb) hl hs ht ((hT.below k3).below hb))
  have CH : Hid (∀ w', Below W1.heap.size W1 w' → _) := hide (fun w' (hb : Below W1.heap.size W1 w') => copyHist (t := t) ((h.later k3).later hb) ht mu mr)
  have K1 := hide k1
  have K2 := hide k2
  have HB := hide k3
  have HS := hide k4
  have hu20 : goodH t u r = true → u.length ≤ 20 ∧ r.length ≤ 20 := fun c => by
    unfold goodH fitT at c
    simp at c
    exact ⟨c.1.2.2, c.2.2⟩
  have HU := hide hu20
  clear h hp mu mr hl hs hT hlo k1 k2 k3 k4 ht hu20
  cases hg : goodH t u r with
  | false =>
    have hB : dcB t u r op = false := by unfold dcB; rw [hg]; rfl
    have hTT : dcT t u r op = ⟨#[]⟩ := by unfold dcT; rw [hB]; rfl
    have hUU : dcU t u r op = [] := by unfold dcU; rw [hB]; rfl
    rw [hB, hTT, hUU]
    rw [hg] at G
    clear hB hTT hUU hg DI CH
    go_enter Tryd.func21, Tryd.ntmps21
    go_wp2_with fail
    rw [← hW1]
    clear hW1
    refine G.out.mono ?_
    rintro e w2 ⟨rfl, hb2⟩
    obtain ⟨⟨p0, p1⟩, ⟨p2, p3⟩, ⟨p4, p5⟩, p6⟩ := (K2.out.later hb2).put3 (.string ⟨#[]⟩) (.slice none 0 0) (.slice none 0 0)
    have P6 := hide p6
    have HE := hide (below3 (HB.out.trans (hb2.mono HB.out.size)) (show w.heap.size ≤ w.heap.size + 1 by omega) (.string ⟨#[]⟩) (.slice none 0 0) (.slice none 0 0))
    clear hb2 p6
    go_wp2
    obtain ⟨tt, htt⟩ := P6.out
    refine bodyPost_ret (results_cell_tmp rfl _ _ (w.heap.size + 1) _ _ (0, 0) _ (.bool false) rfl rfl htt Tryd.underlying24 rfl Tryd.sizeHistory) rfl ?_
    exact ⟨_, _, rfl, hx_nil _ _ _ _ _ _ _, HE.out⟩
  | true =>
    rw [hg] at G
    cases hok : (aplO op t).2 with
    | false =>
      have hB : dcB t u r op = false := by unfold dcB; rw [hg, hok]; rfl
      have hTT : dcT t u r op = ⟨#[]⟩ := by unfold dcT; rw [hB]; rfl
      have hUU : dcU t u r op = [] := by unfold dcU; rw [hB]; rfl
      rw [hB, hTT, hUU]
      rw [hok] at DI
      obtain ⟨T, hTe⟩ : ∃ T, (aplO op t).1 = T := ⟨_, rfl⟩
      rw [hTe] at DI
      clear hB hTT hUU hg CH hok hTe
      go_enter Tryd.func21, Tryd.ntmps21
      go_wp2_with fail
      rw [← hW1]
      clear hW1
      refine G.out.mono ?_
      rintro e w2 ⟨rfl, hb2⟩
      have q0 := (K1.out.later hb2).cell 0 rfl
      simp only [List.getElem_toArray, List.getElem_cons_zero] at q0
      have DI2 := hide (DI.out w2 hb2)
      clear DI G
      go_wp2_with fail
      refine DI2.out.mono ?_
      rintro e w3 ⟨x, rfl, hx, hb3⟩
      rw [if_neg (by simp)] at hx
      obtain ⟨a9, c9, rfl, -, -⟩ := own_shp hx
      have hbb := hb2.trans (hb3.mono hb2.size)
      obtain ⟨w4, hw4⟩ : ∃ w4, w4 = w3.alloc (.cells #[.slice a9 0 c9] 97) := ⟨_, rfl⟩
      have hbb4 : Below W1.heap.size W1 w4 := by rw [hw4]; exact hbb.alloc hbb.size _
      obtain ⟨⟨p0, p1⟩, ⟨p2, p3⟩, ⟨p4, p5⟩, p6⟩ := (K2.out.later hbb4).put3 (.string ⟨#[]⟩) (.slice none 0 0) (.slice none 0 0)
      have P6 := hide p6
      have HE := hide (below3 (HB.out.trans (hbb4.mono HB.out.size)) (show w.heap.size ≤ w.heap.size + 1 by omega) (.string ⟨#[]⟩) (.slice none 0 0) (.slice none 0 0))
      rw [hw4] at p0 p1 p2 p3 p4 p5
      clear hb2 hb3 p6 hbb hbb4 q0 hx
      go_wp2
      rw [← hw4]
      obtain ⟨tt, htt⟩ := P6.out
      refine bodyPost_ret (results_cell_tmp rfl _ _ (w.heap.size + 1) _ _ (0, 0) _ (.bool false) rfl rfl htt Tryd.underlying24 rfl Tryd.sizeHistory) rfl ?_
      exact ⟨_, _, rfl, hx_nil _ _ _ _ _ _ _, HE.out⟩
    | true =>
      have hB : dcB t u r op = true := by unfold dcB; rw [hg, hok]; rfl
      have hTT : dcT t u r op = (aplO op t).1 := by unfold dcT; rw [hB]; rfl
      have hUU : dcU t u r op = lst (u ++ [invO op]) := by unfold dcU; rw [hB]; rfl
      rw [hB, hTT, hUU]
      rw [hok] at DI
      obtain ⟨T, hTe⟩ : ∃ T, (aplO op t).1 = T := ⟨_, rfl⟩
      rw [hTe] at DI ⊢
      obtain ⟨h20, h20r⟩ := HU.out hg
      have hinfo : (Tryd.prog.info? 97).map (fun i => (i.zero, i.size, i.bytes)) = some (some (.agg #[.slice none 0 0]), 1, 24) := by kernel_rfl
      obtain ⟨i0, hi0, hz0, hz1, hz2⟩ := info_parts hinfo
      clear hB hTT hUU hg hok hTe HU hinfo
      go_enter Tryd.func21, Tryd.ntmps21
      go_wp2_with fail
      rw [← hW1]
      clear hW1
      refine G.out.mono ?_
      rintro e w2 ⟨rfl, hb2⟩
      have q0 := (K1.out.later hb2).cell 0 rfl
      simp only [List.getElem_toArray, List.getElem_cons_zero] at q0
      have DI2 := hide (DI.out w2 hb2)
      clear DI G
      go_wp2_with fail
      refine DI2.out.mono ?_
      rintro e w3 ⟨x, rfl, hx, hb3⟩
      rw [if_pos trivial] at hx
      obtain ⟨a9, c9, rfl, -, -⟩ := own_shp hx
      have hbb := hb2.trans (hb3.mono hb2.size)
      obtain ⟨w4, hw4⟩ : ∃ w4, w4 = w3.alloc (.cells #[.slice a9 (invO op).length c9] 97) := ⟨_, rfl⟩
      have hb34 : Below w3.heap.size w3 w4 := by rw [hw4]; exact (Below.refl _ _).alloc (Nat.le_refl _) _
      have hbb4 : Below W1.heap.size W1 w4 := hbb.trans (hb34.mono hbb.size)
      have hs4 : w4.heap.size = w3.heap.size + 1 := by rw [hw4]; simp
      have KI : CB w4 w3.heap.size #[.slice a9 (invO op).length c9] := by rw [hw4]; exact CB.new _ _ _
      have q1 := (K1.out.later hbb4).cell 0 rfl
      have q2 := (K1.out.later hbb4).cell 1 rfl
      have q3 := (K1.out.later hbb4).cell 2 rfl
      simp only [List.getElem_toArray, List.getElem_cons_succ, List.getElem_cons_zero] at q1 q2 q3
      rw [hw4] at q1 q2 q3
      have CH2 := hide (CH.out w4 hbb4)
      have HX4 := hide (own_below hx hb34)
      have HXB : Hid (∀ y, (Value.slice a9 (invO op).length c9).ownBlock = some y → w.heap.size + 2 ≤ y ∧ y < w3.heap.size) := hide (fun y hy => by have := World.ownsRow.lt hx y hy; have := HS.out; have := hb2.size; omega)
      have HB4 := hide (HB.out.trans (hbb4.mono HB.out.size))
      have K24 := hide (K2.out.later hbb4)
      have HS4 : Hid (w4.heap.size = w3.heap.size + 1 ∧ w.heap.size + 2 ≤ w3.heap.size) := hide ⟨hs4, by have := HS.out; have := hbb.size; omega⟩
      have HKI := hide KI
      clear hb2 hb3 hbb hbb4 q0 hx hb34 hs4 KI CH DI2
      go_wp2_with fail
      rw [← hw4]
      clear hw4 q1 q2 q3
      refine CH2.out.mono ?_
      rintro e w5 ⟨xu, xr, zu, zr, m, rfl, hm1, hm2, cu, lu1, lu2, cr, hb5⟩
      obtain ⟨au, nu, rfl, -, -⟩ := own_shp cu.own
      obtain ⟨ar, nr, rfl, -, -⟩ := own_shp cr.own
      obtain ⟨w6, hw6⟩ : ∃ w6, w6 = w5.alloc (.cells #[.string T, .slice au zu.length nu, .slice ar zr.length nr] 24) := ⟨_, rfl⟩
      have hb56 : Below w5.heap.size w5 w6 := by rw [hw6]; exact (Below.refl _ _).alloc (Nat.le_refl _) _
      have hs6 : w6.heap.size = w5.heap.size + 1 := by rw [hw6]; simp
      have KO : CB w6 w5.heap.size #[.string T, .slice au zu.length nu, .slice ar zr.length nr] := by rw [hw6]; exact CB.new _ _ _
      have hb46 : Below w4.heap.size w4 w6 := hb5.trans (hb56.mono hb5.size)
      have e1 := KO.cell 1 rfl
      have e2 := (HKI.out.later hb46).cell 0 rfl
      simp only [List.getElem_toArray, List.getElem_cons_succ, List.getElem_cons_zero] at e1 e2
      rw [hw6] at e1 e2
      have OW := hide cu.own
      have HZU := hide cu.len
      have hzu : zu.length ≤ 20 := by have := cu.len; omega
      have CU6 := hide (cu.later hb56)
      have CR5 := hide cr
      have HX6 := hide (own_below HX4.out hb46)
      have HB6 := hide (HB4.out.trans (hb46.mono HB4.out.size))
      have K26 := hide (K24.out.later hb46)
      have HKO := hide KO
      have LU1 := hide lu1
      have LU2 := hide lu2
      have HN : Hid (w4.heap.size ≤ m ∧ m ≤ w5.heap.size ∧ w6.heap.size = w5.heap.size + 1 ∧ w4.heap.size ≤ w5.heap.size) := hide ⟨hm1, hm2, hs6, hb5.size⟩
      clear hm1 hm2 cu cr lu1 lu2 hb5 hb56 hs6 KO hb46 CH2
      go_wp2_with (at_builtin; refine wpList_append_loc _ rfl _ _ 22 rfl w4.heap.size 97 i0 (.agg #[.slice none 0 0]) 1 24 Tryd.underlying22 hi0 hz0 hz1 hz2 rfl (by decide) _ _ _ rfl (World.ownsRow.alloc (World.ownsRow.alloc OW.out _) _) ⟨w5.heap.size + 1, 0, none⟩ 1 1 [.slice a9 (invO op).length c9] rfl rfl ?_ ?_ ?_ ?_ ?_ ?_)
      · exact cell1_at _ _ (by simp) _ _
      · intro u hu; simp at hu; subst hu; rfl
      · unfold maxLen; omega
      · omega
      · have := HN.out; simp; omega
      rintro v8 w8 hown8 hgrow8 hor8
      rw [← hw6] at hgrow8
      have hN := HN.out
      have h4 := HS4.out
      have hv5 : ∀ y, (Value.slice au zu.length nu).ownBlock = some y → w4.heap.size ≤ y ∧ y < m := fun y hy => ⟨(World.ownsRow.lt CU6.out.own y hy).1, LU1.out y hy⟩
      have hz5 : ∀ z ∈ zu, ∀ y, z.ownBlock = some y → w4.heap.size ≤ y ∧ y < m := fun z hz y hy => ⟨(CU6.out.lo z hz y hy).1, LU2.out z hz y hy⟩
      have c8 : CO w.heap.size w8 v8 (zu ++ [.slice a9 (invO op).length c9]) (u ++ [invO op]) := (CU6.out.lower (by omega)).stepG (PR.own HX6.out) (fun y hy => by
        have := HXB.out y hy
        refine ⟨by omega, by omega, fun c => by have := hv5 y c; omega, fun z hz c => by have := hz5 z hz y c; omega⟩) hgrow8 (own_mono hown8 (by omega)) (by rw [World.size_alloc, hN.2.2.1]; exact hor8)
      have hbl : ∀ y, bl v8 (zu ++ [.slice a9 (invO op).length c9]) y → w.heap.size + 2 ≤ y ∧ y < w8.heap.size ∧ y ≠ w5.heap.size ∧ (y < m ∨ w5.heap.size + 2 ≤ y) := by
        intro y hy
        rcases hy with hy | ⟨z, hz, hy⟩
        · have h1 := (World.ownsRow.lt c8.own y hy).2
          rcases hor8 with e | e
          · have := hv5 y (e ▸ hy); omega
          · have := e y hy; omega
        · have h1 := (c8.lo z hz y hy).2.1
          rcases List.mem_append.1 hz with hz | hz
          · have := hz5 z hz y hy; omega
          · simp at hz; subst hz
            have := HXB.out y hy; omega
      have KO8 : CB w8 w5.heap.size #[.string T, .slice au zu.length nu, .slice ar zr.length nr] := HKO.out.grow hgrow8 (fun c => by have := hv5 _ c; omega)
      have K28 : CB w8 (w.heap.size + 1) #[.string ⟨#[]⟩, .slice none 0 0, .slice none 0 0] := K26.out.grow hgrow8 (fun c => by have := hv5 _ c; omega)
      have HB8 := hide (below_grow HB6.out HB6.out.size hgrow8 (fun y hy => by have := hv5 y hy; omega))
      have CR8 : Hid (∀ v, CO m (w8.setCell ⟨w5.heap.size, 1, none⟩ v) (.slice ar zr.length nr) zr r) := hide (fun v => CR5.out.block (by have := hgrow8.size; rw [World.size_alloc] at this; simp [World.setCell]; omega) (fun y hy1 hy2 => (Below.heap_setCell _ _ _ _ (by show y ≠ w5.heap.size; omega)).trans ((hgrow8.block y (by rw [World.size_alloc]; omega) (fun c => by have := hv5 y c.symm; omega)).trans ((Below.heap_alloc _ _ _ (by omega)).trans (by rw [hw6]; exact Below.heap_alloc _ _ _ hy2)))))
      have LO := hide (lastOnes_any c8 (by simp) (by simp; omega))
      have HBL := hide hbl
      have HKO8 := hide KO8
      have HK28 := hide K28
      have hs8 : Hid (w5.heap.size + 2 ≤ w8.heap.size) := hide (by have := hgrow8.size; rw [World.size_alloc] at this; omega)
      obtain ⟨SB, hSB⟩ : ∃ SB, SB = bl v8 (zu ++ [.slice a9 (invO op).length c9]) := ⟨_, rfl⟩
      rw [← hSB] at LO HBL
      obtain ⟨a8, n8, e8, -, -⟩ := own_shp c8.own
      rw [show (zu ++ [Value.slice a9 (invO op).length c9]).length = zu.length + 1 by simp] at e8
      subst e8
      have o1 := KO8.cell 1 rfl
      have o2 := KO8.fz 1
      have HKO9 : Hid (∀ v, CB (w8.setCell ⟨w5.heap.size, 1, none⟩ v) w5.heap.size #[.string T, v, .slice ar zr.length nr]) := hide (fun v => KO8.set 1 v rfl)
      have HRB : Hid (∀ y, (Value.slice ar zr.length nr).ownBlock = some y → m ≤ y ∧ y < w5.heap.size) := hide (fun y hy => World.ownsRow.lt CR5.out.own y hy)
      have hzr : Hid (zr.length = r.length) := hide CR5.out.len
      simp only [List.getElem_toArray, List.getElem_cons_succ, List.getElem_cons_zero] at o1
      clear hown8 hgrow8 hor8 hv5 hz5 c8 hbl KO8 K28 hSB hw6 e1 e2
      go_wp2_with fail
      refine LO.out.mono ?_
      rintro e w9 ⟨vl, rfl, hdr, hw9⟩
      replace hw9 := hw9.symm
      subst hw9
      obtain ⟨al, nl, rfl⟩ := hdr.shp
      have HDR := hide hdr
      have o4 : (w8.setCell ⟨w5.heap.size, 1, none⟩ (.slice al (lst (u ++ [invO op])).length nl)).cell? ⟨w5.heap.size, 2, none⟩ = some (.slice ar zr.length nr) := (HKO9.out _).cell 2 rfl
      have CR9 := hide (CR8.out (.slice al (lst (u ++ [invO op])).length nl))
      have KO9 := hide (HKO9.out (.slice al (lst (u ++ [invO op])).length nl))
      obtain ⟨NL, hNL⟩ : ∃ NL, (lst (u ++ [invO op])).length = NL := ⟨_, rfl⟩
      rw [hNL] at o4 CR9 KO9 HDR ⊢
      have hzr2 := hzr.out
      have CA := hide (cutAll CR9.out.own (by omega))
      have hN := HN.out
      have h4 := HS4.out
      have h8 := hs8.out
      have HD9 := hide (HDR.out.set (b := w5.heap.size) (j := 1) (fun c => (HBL.out _ c).2.2.1 rfl) (.slice al NL nl))
      have HK29 := hide (HK28.out.other (d := w5.heap.size) (by omega) 1 (.slice al NL nl))
      have HB9 := hide (HB8.out.setCell (p := ⟨w5.heap.size, 1, none⟩) (show w.heap.size ≤ w5.heap.size by omega) (.slice al NL nl))
      have HS9 : Hid (w8.heap.size ≤ (w8.setCell ⟨w5.heap.size, 1, none⟩ (.slice al NL nl)).heap.size ∧ (w8.setCell ⟨w5.heap.size, 1, none⟩ (.slice al NL nl)).heap.size = w8.heap.size) := hide (by simp [World.setCell])
      have HQ : Hid (w.heap.size + 2 ≤ w4.heap.size ∧ w4.heap.size ≤ m ∧ m ≤ w5.heap.size ∧ w5.heap.size + 2 ≤ w8.heap.size) := hide (by omega)
      obtain ⟨w9, hw9⟩ : ∃ w9, w9 = w8.setCell ⟨w5.heap.size, 1, none⟩ (.slice al NL nl) := ⟨_, rfl⟩
      rw [← hw9] at HD9 HK29 HB9 HS9 KO9 CA
      clear hdr CR8 HKO9 LO hzr2 hN h4 h8 h20 h20r hzu CR9
      go_wp2_with fail
      rw [← hw9]
      clear hw9 o1 o2 o4
      refine CA.out.mono ?_
      rintro e w10 ⟨az, rfl, hg10⟩
      have hq := HQ.out
      have h9 := HS9.out
      have KO10 := KO9.out.grown hg10 (fun c => by have := HRB.out _ c; omega)
      have K210 := HK29.out.grown hg10 (fun c => by have := HRB.out _ c; omega)
      have o5 := KO10.cell 2 rfl
      have o6 := KO10.fz 2
      have KO11 := KO10.set 2 (.slice az 0 0) rfl
      have r0 := KO11.cell 0 rfl
      have r1 := KO11.cell 1 rfl
      have r2 := KO11.cell 2 rfl
      obtain ⟨⟨p0, p1⟩, ⟨p2, p3⟩, ⟨p4, p5⟩, p6⟩ := (K210.other (d := w5.heap.size) (by omega) 2 (.slice az 0 0)).put3 (.string T) (.slice al NL nl) (.slice az 0 0)
      have P6 := hide p6
      have HE := hide (below3 ((below_grown HB9.out (by omega) hg10 (fun y hy => by have := HRB.out y hy; omega)).setCell (p := ⟨w5.heap.size, 2, none⟩) (show w.heap.size ≤ w5.heap.size by omega) (.slice az 0 0)) (show w.heap.size ≤ w.heap.size + 1 by omega) (.string T) (.slice al NL nl) (.slice az 0 0))
      have HDF := hide (((HD9.out.block hg10.size (fun y hy hl => hg10.block y hl (fun c => by have h1 := HRB.out y c.symm; have h2 := HBL.out y hy; omega))).set (b := w5.heap.size) (j := 2) (fun c => (HBL.out _ c).2.2.1 rfl) (.slice az 0 0)).set3 (b := w.heap.size + 1) (fun c => by have := HBL.out _ c; omega) (.string T) (.slice al NL nl) (.slice az 0 0))
      have HSZ : Hid (w8.heap.size ≤ w10.heap.size) := hide (by have := hg10.size; omega)
      simp only [List.getElem_toArray, List.getElem_cons_succ, List.getElem_cons_zero] at o5 r0 r1 r2
      clear KO10 K210 KO11 p6 hg10 hq h9 HD9 HK29 HB9 CA
      go_wp2
      obtain ⟨tt, htt⟩ := P6.out
      refine bodyPost_ret (results_cell_tmp rfl _ _ (w.heap.size + 1) _ _ (0, 0) _ (.bool true) rfl rfl htt Tryd.underlying24 rfl Tryd.sizeHistory) rfl ?_
      refine ⟨_, _, rfl, ⟨SB, fun _ => False, HDF.out, .inl ⟨rfl, _, _, rfl⟩, fun _ _ c => c.elim, fun y hy => ?_⟩, HE.out⟩
      rcases hy with hy | hy
      · have h1 := HBL.out y hy
        have h2 := HSZ.out
        have h3 : y < w10.heap.size := by omega
        exact ⟨by omega, by simpa [World.setCell] using h3⟩
      · exact hy.elim
end Go.Proofs.YtpeconmdmddkfaaDoor

set_option linter.unusedVariables false
namespace Go.Proofs.YtpeconmdmddkfaaDoor
open Go.RowKit
open Doc1

/-- What a row is that a change was put behind. -/
def PsPost (B : Nat) (w : World) (vo : Value) (l : List (List Pt)) (e : Ending) (w' : World) : Prop :=
  ∃ v' v8 vals, e = .returned v' ∧ DR (bl v8 vals) w' v' (lst l) ∧ (∀ y, bl v8 vals y → B ≤ y ∧ y < w'.heap.size ∧ (w.heap.size ≤ y ∨ vo.ownBlock = some y)) ∧ Below w.heap.size w w'

theorem CO.bnd {B : Nat} {w : World} {v : Value} {vals : List Value} {l : List (List Pt)} (h : CO B w v vals l) : ∀ y, bl v vals y → B ≤ y ∧ y < w.heap.size := by
  intro y hy
  rcases hy with hy | ⟨z, hz, hy⟩
  · exact World.ownsRow.lt h.own y hy
  · exact ⟨(h.lo z hz y hy).1, (h.lo z hz y hy).2.1⟩

set_option maxRecDepth 100000 in
set_option maxHeartbeats 4000000 in
theorem pushS {S : Nat → Prop} {B : Nat} {w : World} {v vo : Value} {l : List (List Pt)} {op : List Pt} (h : DR S w v l) (hm : SmC l) (h20 : l.length ≤ 20) (hx : PR w vo op) (hB : B ≤ w.heap.size) (hxB : ∀ y, vo.ownBlock = some y → B ≤ y ∧ y < w.heap.size) :
    Calls Tryd.prog 61 #[v, vo] w fun e w' => PsPost B w vo (l ++ [op]) e w' := by
  have hinfo : (Tryd.prog.info? 97).map (fun i => (i.zero, i.size, i.bytes)) = some (some (.agg #[.slice none 0 0]), 1, 24) := by kernel_rfl
  obtain ⟨i0, hi0, hz0, hz1, hz2⟩ := info_parts hinfo
  have OS := hide (ownS h hm)
  obtain ⟨a1, c1, rfl⟩ := h.shp
  obtain ⟨a9, c9, rfl⟩ := hx.shp
  have HX := hide hx
  have HXB := hide hxB
  clear h hm hx hxB hinfo
  go_enter Tryd.func61, Tryd.ntmps61
  go_wp2_with fail
  refine OS.out.mono ?_
  rintro e w5 ⟨xu, zu, rfl, cu, hb5⟩
  obtain ⟨au, nu, rfl, -, -⟩ := own_shp cu.own
  have hzu : zu.length = l.length := cu.len
  have hz20 : zu.length ≤ 20 := by omega
  have HZU := hide hzu
  clear hzu
  have OW := hide cu.own
  have CU := hide cu
  have HB5 := hide hb5
  clear cu hb5 OS
  go_wp2_with (at_builtin; refine wpList_append_loc _ rfl _ _ 22 rfl w.heap.size 97 i0 (.agg #[.slice none 0 0]) 1 24 Tryd.underlying22 hi0 hz0 hz1 hz2 rfl (by decide) _ _ _ rfl (World.ownsRow.alloc OW.out _) ⟨w5.heap.size, 0, none⟩ 1 1 [.slice a9 op.length c9] rfl rfl ?_ ?_ ?_ ?_ ?_ ?_)
  · exact cell1_at _ _ (by simp) _ _
  · intro u hu; simp at hu; subst hu; rfl
  · unfold maxLen; omega
  · omega
  · have := HB5.out.size; simp; omega
  rintro v8 w8 hown8 hgrow8 hor8
  have hsz := HB5.out.size
  have c8 : CO B w8 v8 (zu ++ [.slice a9 op.length c9]) (l ++ [op]) := (CU.out.lower hB).stepG (HX.out.later HB5.out) (fun y hy => by
    have := HXB.out y hy
    refine ⟨by omega, by omega, fun c => by have := (World.ownsRow.lt CU.out.own y c).1; omega, fun z hz c => by have := (CU.out.lo z hz y c).1; omega⟩) hgrow8 (own_mono hown8 hB) (by rw [World.size_alloc]; exact hor8)
  have HB8 := hide (below_grow HB5.out hsz hgrow8 (fun y hy => (World.ownsRow.lt CU.out.own y hy).1))
  have hll : (l ++ [op]).length = l.length + 1 := by simp
  have hzu := HZU.out
  have HBN : Hid (∀ y, bl v8 (zu ++ [.slice a9 op.length c9]) y → B ≤ y ∧ y < w8.heap.size ∧ (w.heap.size ≤ y ∨ (Value.slice a9 op.length c9).ownBlock = some y)) := hide (fun y hy => by
    have hb := c8.bnd y hy
    refine ⟨hb.1, hb.2, ?_⟩
    rcases hy with hy | ⟨z, hz, hy⟩
    · rcases hor8 with e | e
      · exact .inl (World.ownsRow.lt CU.out.own y (e ▸ hy)).1
      · have := e y hy; exact .inl (by omega)
    · rcases List.mem_append.1 hz with hz | hz
      · exact .inl (CU.out.lo z hz y hy).1
      · simp at hz; subst hz
        exact .inr hy)
  by_cases h21 : 20 < l.length + 1
  · obtain ⟨g, cap, ev, d1, d2, d3, d4⟩ := c8.drop 1 (by simp; omega)
    rw [hll] at ev d1 d4
    have hl20 : l.length = 20 := by omega
    rw [hl20] at ev d1 d4
    have HF : Hid (DR (bl v8 (zu ++ [.slice a9 op.length c9])) w8 (.slice (some ⟨g, 1, none⟩) 20 (cap - 1)) (lst (l ++ [op]))) := hide (by
      have := d4 (cap - 1) (by omega) (by omega)
      unfold lst
      rw [hll, hl20]
      exact this)
    obtain ⟨SB, hSB⟩ : ∃ SB, SB = bl v8 (zu ++ [.slice a9 op.length c9]) := ⟨_, rfl⟩
    have HSB := hide hSB
    rw [← hSB] at HF HBN
    subst ev
    unfold maxLen at d2
    clear hown8 hgrow8 hor8 c8 d4 OW CU hSB hll hzu
    go_wp2
    go_ret
    exact ⟨_, _, _, rfl, by have := HF.out; rw [HSB.out] at this; exact this, by have := HBN.out; rw [HSB.out] at this; exact this, HB8.out⟩
  · have HF : Hid (DR (bl v8 (zu ++ [.slice a9 op.length c9])) w8 v8 (lst (l ++ [op]))) := hide (by
      have := c8.dr
      unfold lst
      rw [show (l ++ [op]).length - 20 = 0 by omega]
      exact this)
    obtain ⟨SB, hSB⟩ : ∃ SB, SB = bl v8 (zu ++ [.slice a9 op.length c9]) := ⟨_, rfl⟩
    have HSB := hide hSB
    rw [← hSB] at HF HBN
    obtain ⟨a8, n8, e8, -, -⟩ := own_shp c8.own
    rw [show (zu ++ [Value.slice a9 op.length c9]).length = l.length + 1 by simp [hzu]] at e8
    subst e8
    have h22 : ¬ (20 < ((l.length + 1 : Nat) : Int)) := by omega
    clear hown8 hgrow8 hor8 c8 OW CU hSB hll hzu
    go_wp2
    go_ret
    exact ⟨_, _, _, rfl, by have := HF.out; rw [HSB.out] at this; exact this, by have := HBN.out; rw [HSB.out] at this; exact this, HB8.out⟩
end Go.Proofs.YtpeconmdmddkfaaDoor

set_option linter.unusedVariables false
namespace Go.Proofs.YtpeconmdmddkfaaDoor
open Go.RowKit
open Doc1

theorem fitR_pre : ∀ (a b : List (List Pt)) (s : ByteArray), fitR (a ++ b) s = true → fitR a s = true
  | [], _, _, _ => rfl
  | op :: a, b, s, h => by
    simp only [List.cons_append, fitR, Bool.and_eq_true] at h ⊢
    exact ⟨h.1, fitR_pre a b _ h.2⟩
theorem lst_len (l : List (List Pt)) : (lst l).length ≤ 20 := by unfold lst; rw [List.length_drop]; omega
/-- What is done is a good history. -/
theorem do_good {t : ByteArray} {u r : List (List Pt)} {op : List Pt} (h : goodH t u r = true) (hok : (aplO op t).2 = true) : goodH (aplO op t).1 (lst (u ++ [invO op])) [] = true := by
  have hu : fitR u.reverse t = true ∧ u.length ≤ 20 := by
    unfold goodH fitT at h
    simp at h
    exact h.1.2
  have h1 := apl_gd hok
  have h2 := (undo hok).1
  have h3 : fitT (lst (u ++ [invO op])) (aplO op t).1 = true := by
    unfold fitT
    rw [decide_eq_true (lst_len _), Bool.and_true]
    have e : (lst (u ++ [invO op])).reverse = invO op :: (u.drop (u.length + 1 - 20)).reverse := by
      unfold lst
      rw [List.length_append, List.length_singleton, List.drop_append_of_le_length (by omega), List.reverse_append]
      rfl
    rw [e]
    simp only [fitR]
    rw [h2]
    simp only [Bool.true_and]
    refine fitR_pre _ (u.take (u.length + 1 - 20)).reverse t ?_
    rw [← List.reverse_append, List.take_append_drop]
    exact hu.1
  unfold goodH
  rw [h1, h3]
  rfl

theorem drew_size (w : World) : w.drew.heap.size = w.heap.size := rfl
/-- The new history in its box. -/
def OQ (B : Nat) (W1 : World) (A1 : ByteArray) (l : List (List Pt)) (c : Nat) (wx : World) : Prop :=
  ∃ v' v8 vals, CB wx c #[.string A1, v', .slice none 0 0] ∧ DR (bl v8 vals) wx v' l ∧ (∀ y, bl v8 vals y → B ≤ y ∧ y < wx.heap.size ∧ y ≠ c) ∧ B ≤ c ∧ Below W1.heap.size W1 wx
theorem oq_new {B : Nat} {W1 w6 : World} {A1 : ByteArray} {l : List (List Pt)} {v' v8 : Value} {vals : List Value} {t : TypeId} (hd : DR (bl v8 vals) w6 v' l) (hb : ∀ y, bl v8 vals y → B ≤ y ∧ y < w6.heap.size) (hB : B ≤ w6.heap.size) (h1 : Below W1.heap.size W1 w6) : OQ B W1 A1 l w6.heap.size (w6.alloc (.cells #[.string A1, v', .slice none 0 0] t)) :=
  ⟨v', v8, vals, CB.new _ _ _, hd.later ((Below.refl _ _).alloc (Nat.le_refl _) _), fun y hy => by have := hb y hy; simp; omega, hB, h1.alloc h1.size _⟩
theorem oq_set {B c : Nat} {W1 w6 : World} {A1 : ByteArray} {l : List (List Pt)} {v' v8 x y z : Value} {vals : List Value} (hd : DR (bl v8 vals) w6 v' l) (hb : ∀ y, bl v8 vals y → B ≤ y ∧ y < w6.heap.size ∧ y ≠ c) (hB : B ≤ c) (hWB : W1.heap.size ≤ B) (h1 : Below W1.heap.size W1 w6) (hc : CB w6 c #[x, y, z]) : OQ B W1 A1 l c (((w6.setCell ⟨c, 0, none⟩ (.string A1)).setCell ⟨c, 1, none⟩ v').setCell ⟨c, 2, none⟩ (.slice none 0 0)) :=
  ⟨v', v8, vals, (hc.put3 _ _ _).2.2.2, hd.set3 (fun e => (hb _ e).2.2 rfl) _ _ _, fun y hy => by have := hb y hy; simp [World.setCell]; omega, hB, below3 h1 (by omega) _ _ _⟩
theorem smC_lst {u : List (List Pt)} {x : List Pt} (h : SmC u) (hx : x.length ≤ 1048576 ∧ ∀ j (hj : j < x.length), x[j].put.size ≤ 1048576 ∧ x[j].drop.size ≤ 1048576) : SmC (lst (u ++ [x])) := by
  refine ⟨by have := lst_len (u ++ [x]); omega, fun i hi => ?_⟩
  have key : ∀ z ∈ lst (u ++ [x]), z.length ≤ 1048576 ∧ ∀ j (hj : j < z.length), z[j].put.size ≤ 1048576 ∧ z[j].drop.size ≤ 1048576 := by
    intro z hz
    rcases List.mem_append.1 (List.mem_of_mem_drop hz) with hz | hz
    · obtain ⟨j, hj, rfl⟩ := List.getElem_of_mem hz
      exact h.2 j hj
    · simp at hz; subst hz; exact hx
  exact key _ (List.getElem_mem hi)
theorem inv_sm {op : List Pt} (h : goodO op = true) : (invO op).length ≤ 1048576 ∧ ∀ j (hj : j < (invO op).length), (invO op)[j].put.size ≤ 1048576 ∧ (invO op)[j].drop.size ≤ 1048576 :=
  ⟨by have := (goodO_le (good_invO h).1).1; omega, smP_sz (invO_smP op)⟩

set_option maxRecDepth 100000 in
set_option maxHeartbeats 8000000 in
theorem doS {lo hi : Nat} {w : World} {vu vr vo : Value} {t : ByteArray} {u r : List (List Pt)} {op : List Pt} (h : HX lo hi w vu vr u r) (ht : t.size ≤ 1048576) (mu : SmC u) (mr : SmC r) (hp : PR w vo op) (hl : op.length ≤ 1048576) (hs : ∀ j (hj : j < op.length), op[j].put.size ≤ 1048576 ∧ op[j].drop.size ≤ 1048576) (h0w : 0 < w.heap.size) :
    Calls Tryd.prog 19 #[.agg #[.string t, vu, vr], vo] w fun e w' => HPost w (dcT t u r op) (dcU t u r op) (dcR t u r op) (dcB t u r op) e w' := by
  obtain ⟨a1, c1, a2, c2, rfl, rfl⟩ := h.shp
  obtain ⟨ao, g, co, rfl, hpin⟩ := hp.pin h0w hl hs
  obtain ⟨W1, hW1⟩ : ∃ W1, W1 = (w.alloc (.cells #[.string t, .slice a1 u.length c1, .slice a2 r.length c2] 24)).alloc (.cells #[.string ⟨#[]⟩, .slice none 0 0, .slice none 0 0] 24) := ⟨_, rfl⟩
  obtain ⟨k1, k2, k3, k4⟩ := cb_two w #[.string t, .slice a1 u.length c1, .slice a2 r.length c2] #[.string ⟨#[]⟩, .slice none 0 0, .slice none 0 0] 24 24
  rw [← hW1] at k1 k2 k3 k4
  have G := hide (goodHS (t := t) (h.later k3) ht mu mr)
  have GO : Hid (∀ w', Below W1.heap.size W1 w' → _) := hide (fun w' (hb : Below W1.heap.size W1 w') => goodOpS ((hpin.later k3).later hb))
  have HP := hide (hpin.later k3)
  have K1 := hide k1
  have K2 := hide k2
  have HB := hide k3
  have HS := hide k4
  have HH := hide (h.later k3)
  have MU := hide mu
  have hu20 : goodH t u r = true → u.length ≤ 20 ∧ good t.data.toList = true := fun c => by
    unfold goodH fitT at c
    simp at c
    exact ⟨c.1.2.2, c.1.1⟩
  have HU := hide hu20
  clear h hp mu mr hl hs k1 k2 k3 k4 ht hu20 hpin
  cases hg : goodH t u r with
  | false =>
    have hB : dcB t u r op = false := by unfold dcB; rw [hg]; rfl
    have hTT : dcT t u r op = ⟨#[]⟩ := by unfold dcT; rw [hB]; rfl
    have hUU : dcU t u r op = [] := by unfold dcU; rw [hB]; rfl
    rw [hB, hTT, hUU]
    rw [hg] at G
    clear hB hTT hUU hg GO
    go_enter Tryd.func19, Tryd.ntmps19
    go_wp2_with fail
    rw [← hW1]
    clear hW1
    refine G.out.mono ?_
    rintro e w2 ⟨rfl, hb2⟩
    obtain ⟨⟨p0, p1⟩, ⟨p2, p3⟩, ⟨p4, p5⟩, p6⟩ := (K2.out.later hb2).put3 (.string ⟨#[]⟩) (.slice none 0 0) (.slice none 0 0)
    have P6 := hide p6
    have HE := hide (below3 (HB.out.trans (hb2.mono HB.out.size)) (show w.heap.size ≤ w.heap.size + 1 by omega) (.string ⟨#[]⟩) (.slice none 0 0) (.slice none 0 0))
    clear hb2 p6
    go_wp2
    obtain ⟨tt, htt⟩ := P6.out
    refine bodyPost_ret (results_cell_tmp rfl _ _ (w.heap.size + 1) _ _ (0, 0) _ (.bool false) rfl rfl htt Tryd.underlying24 rfl Tryd.sizeHistory) rfl ?_
    exact ⟨_, _, rfl, hx_nil _ _ _ _ _ _ _, HE.out⟩
  | true =>
    rw [hg] at G
    cases hgo : goodO op with
    | false =>
      have hB : dcB t u r op = false := by unfold dcB; rw [hg, apl_no hgo]; rfl
      have hTT : dcT t u r op = ⟨#[]⟩ := by unfold dcT; rw [hB]; rfl
      have hUU : dcU t u r op = [] := by unfold dcU; rw [hB]; rfl
      rw [hB, hTT, hUU]
      rw [hgo] at GO
      clear hB hTT hUU hg hgo
      go_enter Tryd.func19, Tryd.ntmps19
      go_wp2_with fail
      rw [← hW1]
      clear hW1
      refine G.out.mono ?_
      rintro e w2 ⟨rfl, hb2⟩
      have GO2 := hide (GO.out w2 hb2)
      clear GO G
      go_wp2_with fail
      refine GO2.out.mono ?_
      rintro e w3 ⟨rfl, hb3⟩
      have hbb := hb2.trans (hb3.mono hb2.size)
      obtain ⟨⟨p0, p1⟩, ⟨p2, p3⟩, ⟨p4, p5⟩, p6⟩ := (K2.out.later hbb).put3 (.string ⟨#[]⟩) (.slice none 0 0) (.slice none 0 0)
      have P6 := hide p6
      have HE := hide (below3 (HB.out.trans (hbb.mono HB.out.size)) (show w.heap.size ≤ w.heap.size + 1 by omega) (.string ⟨#[]⟩) (.slice none 0 0) (.slice none 0 0))
      clear hb2 hb3 hbb p6
      go_wp2
      obtain ⟨tt, htt⟩ := P6.out
      refine bodyPost_ret (results_cell_tmp rfl _ _ (w.heap.size + 1) _ _ (0, 0) _ (.bool false) rfl rfl htt Tryd.underlying24 rfl Tryd.sizeHistory) rfl ?_
      exact ⟨_, _, rfl, hx_nil _ _ _ _ _ _ _, HE.out⟩
    | true =>
      obtain ⟨h20, hgt⟩ := HU.out hg
      obtain ⟨hap1, hap2⟩ := apl_apO hgo hgt
      have hgsz := good_sz hgt
      have AP : Hid (∀ w', Below W1.heap.size W1 w' → _) := hide (fun w' (hb : Below W1.heap.size W1 w') => l3Apply_any t (HP.out.later hb) (goodO_le hgo).1 (goodO_pk hgo) (by omega))
      have hinv : normL (op.map invP) = invO op := by unfold invO; rw [hgo]; rfl
      have IV : Hid (∀ w', Below W1.heap.size W1 w' → _) := hide (fun w' (hb : Below W1.heap.size W1 w') => l3Invert_any (HP.out.later hb) (goodO_le hgo).1 (goodO_pk hgo))
      rw [hinv] at IV
      rw [hgo] at GO
      have KC : Hid (∀ w', Below W1.heap.size W1 w' → w'.cell? ⟨w.heap.size, 0, none⟩ = some (.string t) ∧ w'.cell? ⟨w.heap.size, 1, none⟩ = some (.slice a1 u.length c1) ∧ w'.cell? ⟨w.heap.size, 2, none⟩ = some (.slice a2 r.length c2)) := hide (fun w' hb => ⟨(K1.out.later hb).cell 0 rfl, (K1.out.later hb).cell 1 rfl, (K1.out.later hb).cell 2 rfl⟩)
      obtain ⟨A1, hA1⟩ : ∃ A1, (apO op t).1 = A1 := ⟨_, rfl⟩
      obtain ⟨A2, hA2⟩ : ∃ A2, (apO op t).2 = A2 := ⟨_, rfl⟩
      rw [hA1, hA2] at AP
      go_enter Tryd.func19, Tryd.ntmps19
      go_wp2_with fail
      rw [← hW1]
      clear hW1
      refine G.out.mono ?_
      rintro e w2 ⟨rfl, hb2⟩
      have GO2 := hide (GO.out w2 hb2)
      clear GO G
      go_wp2_with fail
      refine GO2.out.mono ?_
      rintro e w3 ⟨rfl, hb3⟩
      have hbb := hb2.trans (hb3.mono hb2.size)
      obtain ⟨q0, q1, q2⟩ := KC.out w3 hbb
      have AP3 := hide (AP.out w3 hbb)
      have HBB := hide hbb
      clear hb2 hb3 hbb AP GO2
      go_wp2_with fail
      refine AP3.out.mono ?_
      rintro e w4 ⟨rfl, hb4⟩
      have HB4 := hide (HBB.out.trans (hb4.mono HBB.out.size))
      clear hb4 HBB AP3 q0 q1 q2
      go_wp2_with fail
      have PU : Hid (∀ w' x, Below W1.heap.size W1 w' → POwn w' W1.heap.size x (invO op) → Calls Tryd.prog 61 #[.slice a1 u.length c1, x] w' fun e w'' => PsPost W1.heap.size w' x (u ++ [invO op]) e w'') := hide (fun w' x hb hx => by
        obtain ⟨S, T, d1, -, -, -⟩ := HH.out
        exact pushS (d1.later hb) MU.out h20 (PR.own hx) hb.size (pown_lt hx))
      have INS := hide (inv_sm hgo)
      have HA := hide (And.intro hA1 hA2)
      have HAP := hide (And.intro hap1 hap2)
      have HGG := hide (And.intro hg hgo)
      clear hA1 hA2 hap1 hap2 hg hgo hinv hgt hgsz HU
      go_cut [8] from 25 to 31 (fun vb wx => ∃ c, vb = .pointer (some ⟨c, 0, none⟩) ∧ Hid (OQ W1.heap.size W1 A1 (lst (u ++ [invO op])) c wx))
      case first =>
        go_region_held3 (fun w' => w'.cell? ⟨w.heap.size, 0, none⟩ = some (.string t) ∧ w'.cell? ⟨w.heap.size, 1, none⟩ = some (.slice a1 u.length c1) ∧ w'.cell? ⟨w.heap.size, 2, none⟩ = some (.slice a2 r.length c2))
          (first | assumption | exact KC.out _ HB4.out | exact KC.out _ HB4.out.drew | exact KC.out _ (HB4.out.drew.alloc HB4.out.size _) | exact KC.out _ hb6 | exact KC.out _ (hb6.alloc hb6.size _) | exact KC.out _ (below3 hb6 (by first | exact hb5.size | exact HB4.out.size) _ _ _) | exact KC.out _ hb5 | exact KC.out _ (hb5.alloc hb5.size _))
          (first
            | (go_at_call 61; refine (PU.out _ _ (by first | exact hb5 | exact hb5.alloc hb5.size _) (by first | exact hx | exact own_below hx ((Below.refl _ _).alloc (Nat.le_refl _) _))).mono ?_; rintro e w6 ⟨v', v8, vals, rfl, hdr, hbd, hk2⟩; obtain ⟨a', c', rfl⟩ := hdr.shp; have hb6 : Below W1.heap.size W1 w6 := (by first | exact hb5.trans (hk2.mono hb5.size) | exact (hb5.alloc hb5.size _).trans (hk2.mono (by simp; have := hb5.size; omega))); (first | (have Y := hide ((CB.later (CB.later (show CB (w4.drew.alloc (.cells #[.string ⟨#[]⟩, .slice none 0 0, .slice none 0 0] 24)) w4.heap.size #[.string ⟨#[]⟩, .slice none 0 0, .slice none 0 0] from CB.new w4.drew _ _) hk1) hk2))) | (have Y := hide ((CB.later (CB.new w5 #[.string ⟨#[]⟩, .slice none 0 0, .slice none 0 0] 24) hk2))) | have Y := hide trivial); (first | (obtain ⟨⟨p0, p1⟩, ⟨p2, p3⟩, ⟨p4, p5⟩, p6⟩ := Y.out.put3 (.string A1) (.slice a' (lst (u ++ [invO op])).length c') (.slice none 0 0); clear p6) | skip))
            | (go_at_call 62; refine (IV.out _ (by first | exact HB4.out.drew | exact HB4.out.drew.alloc HB4.out.size _)).mono ?_; rintro e w5 ⟨x, rfl, hx0, hk1⟩; obtain ⟨a9, c9, rfl, -, -⟩ := own_shp hx0; have hxl := hide (pown_lt hx0); have hx : POwn w5 W1.heap.size (.slice a9 (invO op).length c9) (invO op) := own_mono hx0 (by first | exact HB4.out.size | (have := HB4.out.size; simp; omega)); have hb5 : Below W1.heap.size W1 w5 := (by first | exact HB4.out.drew.trans (hk1.mono HB4.out.size) | exact (HB4.out.drew.alloc HB4.out.size _).trans (hk1.mono (by have := HB4.out.size; simp; omega))); clear hx0))
        all_goals
          have hs4 := HB4.out.size
          have hs5 := hk1.size
          have hs6 := hk2.size
          (try simp only [drew_size, World.size_alloc] at hs5)
          (try simp only [World.size_alloc] at hs6)
          go_wp2_with fail
          go_meet
          case rel => first
            | exact ⟨_, rfl, hide (oq_new hdr (fun y hy => ⟨(hbd y hy).1, (hbd y hy).2.1⟩) hb6.size hb6)⟩
            | exact ⟨_, rfl, hide (oq_set hdr (fun y hy => ⟨(hbd y hy).1, (hbd y hy).2.1, by
                rcases (hbd y hy).2.2 with q | q
                · (try simp only [World.size_alloc] at q)
                  omega
                · have q2 := hxl.out y q
                  (try simp only [drew_size, World.size_alloc] at q2)
                  omega⟩) (by first | exact hb5.size | exact HB4.out.size) (Nat.le_refl _) hb6 Y.out)⟩
      case rest =>
        obtain ⟨c, rfl, HQ⟩ := hcut
        obtain ⟨w7, hw7⟩ : ∃ w7, wc = w7 := ⟨_, rfl⟩
        rw [hw7] at HQ ⊢
        clear hw7 KC PU IV
        obtain ⟨v', v8, vals, hcb, hdr, hbd, hBc, hb7⟩ := HQ.out
        obtain ⟨a', c', rfl⟩ := hdr.shp
        have hs2 := HS.out
        have HCB := hide hcb
        have HDR := hide hdr
        have HBD := hide hbd
        have HB7 := hide hb7
        have HBc : Hid (w.heap.size + 2 ≤ c) := hide (by omega)
        obtain ⟨NL, hNL⟩ : ∃ NL, (lst (u ++ [invO op])).length = NL := ⟨_, rfl⟩
        rw [hNL] at HCB HDR
        cases hA2 : A2 with
        | false =>
          have hok : (aplO op t).2 = false := by rw [HAP.out.1, HA.out.2, hA2]
          have hB : dcB t u r op = false := by unfold dcB; rw [hok, Bool.and_false]
          have hTT : dcT t u r op = ⟨#[]⟩ := by unfold dcT; rw [hB]; rfl
          have hUU : dcU t u r op = [] := by unfold dcU; rw [hB]; rfl
          have HZ := hide (And.intro hB (And.intro hTT hUU))
          obtain ⟨⟨p0, p1⟩, ⟨p2, p3⟩, ⟨p4, p5⟩, p6⟩ := (K2.out.later hb7).put3 (.string ⟨#[]⟩) (.slice none 0 0) (.slice none 0 0)
          have P6 := hide p6
          have HE := hide (below3 (HB.out.trans (hb7.mono HB.out.size)) (show w.heap.size ≤ w.heap.size + 1 by omega) (.string ⟨#[]⟩) (.slice none 0 0) (.slice none 0 0))
          subst hA2
          clear hok hB hTT hUU p6 hcb hdr hbd hBc hb7 hs2 hNL HQ
          go_wp2
          obtain ⟨tt, htt⟩ := P6.out
          refine bodyPost_ret (results_cell_tmp rfl _ _ (w.heap.size + 1) _ _ (0, 0) _ (.bool false) rfl rfl htt Tryd.underlying24 rfl Tryd.sizeHistory) rfl ?_
          rw [HZ.out.1, HZ.out.2.1, HZ.out.2.2]
          exact ⟨_, _, rfl, hx_nil _ _ _ _ _ _ _, HE.out⟩
        | true =>
          have hok : (aplO op t).2 = true := by rw [HAP.out.1, HA.out.2, hA2]
          have hAA := HAP.out.2 (by rw [HA.out.2, hA2])
          rw [HA.out.1] at hAA
          have hB : dcB t u r op = true := by unfold dcB; rw [hok, HGG.out.1]; rfl
          have hTT : dcT t u r op = A1 := by unfold dcT; rw [hB, if_pos rfl, hAA.1]
          have hUU : dcU t u r op = lst (u ++ [invO op]) := by unfold dcU; rw [hB]; rfl
          have HZ := hide (And.intro hB (And.intro hTT hUU))
          have hgd := do_good HGG.out.1 hok
          rw [hAA.1] at hgd
          have hHX : HX W1.heap.size w7.heap.size w7 (.slice a' NL c') (.slice none 0 0) (lst (u ++ [invO op])) [] := ⟨bl v8 vals, fun _ => False, HDR.out, .inl ⟨rfl, _, _, rfl⟩, fun _ _ e => e.elim, fun y hy => by
            rcases hy with hy | hy
            · have := hbd y hy; omega
            · exact hy.elim⟩
          have G2 := hide (goodHS (t := A1) hHX (by have := good_sz hAA.2; omega) (smC_lst MU.out INS.out) ⟨by simp, fun i hi => by simp at hi⟩)
          rw [hgd] at G2
          have x0 : w7.cell? ⟨c, 0, none⟩ = some (.string A1) := HCB.out.cell 0 rfl
          have x1 : w7.cell? ⟨c, 1, none⟩ = some (.slice a' NL c') := HCB.out.cell 1 rfl
          have x2 : w7.cell? ⟨c, 2, none⟩ = some (.slice none 0 0) := HCB.out.cell 2 rfl
          subst hA2
          clear hok hB hTT hUU hcb hdr hbd hBc hb7 hs2 hNL HQ hAA hgd hHX
          go_wp2_with fail
          refine G2.out.mono ?_
          rintro e w8 ⟨rfl, hb8⟩
          have hbb := HB7.out.trans (hb8.mono HB7.out.size)
          have y0 : w8.cell? ⟨c, 0, none⟩ = some (.string A1) := (HCB.out.later hb8).cell 0 rfl
          have y1 : w8.cell? ⟨c, 1, none⟩ = some (.slice a' NL c') := (HCB.out.later hb8).cell 1 rfl
          have y2 : w8.cell? ⟨c, 2, none⟩ = some (.slice none 0 0) := (HCB.out.later hb8).cell 2 rfl
          obtain ⟨⟨p0, p1⟩, ⟨p2, p3⟩, ⟨p4, p5⟩, p6⟩ := (K2.out.later hbb).put3 (.string A1) (.slice a' NL c') (.slice none 0 0)
          have P6 := hide p6
          have HE := hide (below3 (HB.out.trans (hbb.mono HB.out.size)) (show w.heap.size ≤ w.heap.size + 1 by omega) (.string A1) (.slice a' NL c') (.slice none 0 0))
          have HDF := hide ((HDR.out.later hb8).set3 (b := w.heap.size + 1) (fun e => by have := HBD.out _ e; have := HS.out; omega) (.string A1) (.slice a' NL c') (.slice none 0 0))
          have HSZ := hide hb8.size
          clear hb8 hbb p6 x0 x1 x2 G2
          go_wp2
          obtain ⟨tt, htt⟩ := P6.out
          refine bodyPost_ret (results_cell_tmp rfl _ _ (w.heap.size + 1) _ _ (0, 0) _ (.bool true) rfl rfl htt Tryd.underlying24 rfl Tryd.sizeHistory) rfl ?_
          rw [HZ.out.1, HZ.out.2.1, HZ.out.2.2]
          refine ⟨_, _, rfl, ⟨bl v8 vals, fun _ => False, HDF.out, .inl ⟨rfl, _, _, rfl⟩, fun _ _ e => e.elim, fun y hy => ?_⟩, HE.out⟩
          rcases hy with hy | hy
          · have h1 := HBD.out y hy
            have h2 := HSZ.out
            have h3 := HS.out
            have h4 : y < w8.heap.size := by omega
            exact ⟨by omega, by simpa [World.setCell] using h4⟩
          · exact hy.elim
end Go.Proofs.YtpeconmdmddkfaaDoor
