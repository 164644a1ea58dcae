/- Rows of entries that are built: the program's copyOfEntries, the model's l15OwnLog, EntriesFrom of both. EntriesFrom, of both. -/
import Derived.Test.YtkjioadmebkaoabDoorSrv4
import Derived.Test.YtkjioadmebkaoabDoorFrm
import Derived.Deep.RegionHeldLaw
import Derived.Laws.CopyRow
set_option linter.unusedVariables false
namespace Go.Proofs.YtkjioadmebkaoabDoor
open Go.RowKit
open Doc1

theorem pown_app {w : World} {B : Nat} {v : Value} {l : List Pt} {p : Pt} (h : w.ownsRow B 79 3 v (l.length + 1) (encP l ++ [.int .i64 p.keep, .string p.put, .string p.drop])) : POwn w B v (l ++ [p]) := by
  unfold POwn
  rw [List.length_append, encP_app]
  exact h

set_option maxRecDepth 100000 in
set_option maxHeartbeats 4000000 in
theorem copyOp {w : World} {v : Value} {l : List Pt} (h : PR w v l) (hl : l.length ≤ 1048576) (hs : ∀ j (hj : j < l.length), l[j].put.size ≤ 1048576 ∧ l[j].drop.size ≤ 1048576) :
    Calls Tryd.prog 71 #[v] w fun e w' => ∃ v', e = .returned v' ∧ POwn w' w.heap.size v' l ∧ Below w.heap.size w w' := by
  have hinfo : (Tryd.prog.info? 79).map (fun i => (i.zero, i.size, i.bytes)) = some (some (.agg #[.int .i64 0, .string ⟨#[]⟩, .string ⟨#[]⟩]), 3, 40) := by kernel_rfl
  obtain ⟨i0, hi0, hz0, hz1, hz2⟩ := info_parts hinfo
  rcases h with ⟨rfl, a, c, rfl, -⟩ | ⟨g, cap, rfl, h1, h2, h3, h4, -⟩
  · go_enter Tryd.func71, Tryd.ntmps71
    go_wp2
    go_loop [3, 8] (fun o i => o = .slice none 0 0 ∧ i = .int .i64 0) (fun _ _ => 0)
    case atStart => exact ⟨rfl, rfl⟩
    case round =>
      obtain ⟨rfl, rfl⟩ := hrel
      go_wp2
      go_ret
      exact ⟨_, rfl, World.ownsRow_nil _ _ _ _, Below.refl _ _⟩
  · have HC := hide h4
    have HS := hide hs
    clear h4 hs
    go_enter Tryd.func71, Tryd.ntmps71
    go_wp2
    go_loopw [3, 8] (fun o i wr => ∃ k : Nat, k ≤ l.length ∧ i = .int .i64 k ∧ Hid (POwn wr w.heap.size o (l.take k)) ∧ Below w.heap.size w wr) (fun _ i _ => l.length - (intOf i).toNat)
    case atStart => exact ⟨0, Nat.zero_le _, rfl, hide (by rw [List.take_zero]; exact World.ownsRow_nil _ _ _ _), Below.refl _ _⟩
    case round =>
      obtain ⟨k, hk, rfl, HO, hbel⟩ := hrel
      by_cases hlt : k < l.length
      · obtain ⟨c0, c1, c2⟩ := (HC.out.later hbel h3).ptat k hlt
        have hsz := HS.out k hlt
        obtain ⟨W1, hW1⟩ : ∃ W1, W1 = wr.alloc (.cells #[.int .i64 l[k].keep, .string l[k].put, .string l[k].drop] 79) := ⟨_, rfl⟩
        have b1 : CB W1 wr.heap.size #[.int .i64 l[k].keep, .string l[k].put, .string l[k].drop] := by rw [hW1]; exact CB.new _ _ _
        have hB1 : Below wr.heap.size wr W1 := by rw [hW1]; exact (Below.refl _ _).alloc (Nat.le_refl _) _
        have KC : Hid (∀ w', Below W1.heap.size W1 w' → w'.cell? ⟨wr.heap.size, 0, none⟩ = some (.int .i64 l[k].keep) ∧ w'.cell? ⟨wr.heap.size, 1, none⟩ = some (.string l[k].put) ∧ w'.cell? ⟨wr.heap.size, 2, none⟩ = some (.string l[k].drop)) := hide (fun w' hb => ⟨(b1.later hb).cell 0 rfl, (b1.later hb).cell 1 rfl, (b1.later hb).cell 2 rfl⟩)
        have CP := hide (fun w' => strClone_any l[k].put w' hsz.1)
        have CD := hide (fun w' => strClone_any l[k].drop w' hsz.2)
        have HB1 := hide hB1
        obtain ⟨aO, cO, rfl, -, -⟩ := own_shp HO.out
        have hlk : (l.take k).length = k := by simp; omega
        rw [hlk] at HO
        have HLK := hide hlk
        clear b1 hB1
        go_wp2_with fail
        rw [← hW1]
        have HBW := hide (hbel.trans (HB1.out.mono hbel.size))
        have HOW : Hid (∀ w2, Below W1.heap.size W1 w2 → w2.ownsRow w.heap.size 79 3 (.slice aO k cO) k (encP (l.take k))) := hide (fun w2 hb => by
          have h1 := own_below (own_below HO.out HB1.out) hb
          rw [hlk] at h1
          exact h1)
        have KX : Hid (∀ w2, Below W1.heap.size W1 w2 → ∀ o w9, (w2.alloc o).grownBy w9 (Value.slice aO k cO).ownBlock → w9.cell? ⟨wr.heap.size, 0, none⟩ = some (.int .i64 l[k].keep) ∧ w9.cell? ⟨wr.heap.size, 1, none⟩ = some (.string l[k].put) ∧ w9.cell? ⟨wr.heap.size, 2, none⟩ = some (.string l[k].drop)) := hide (fun w2 hb o w9 hg => by
          have hlt9 : wr.heap.size < W1.heap.size := by rw [hW1]; simp
          have e9 : w9.heap[wr.heap.size]? = w2.heap[wr.heap.size]? := (hg.block _ (by have := hb.size; simp; omega) (fun c => by have := (World.ownsRow.lt HO.out _ c.symm).2; omega)).trans (Below.heap_alloc w2 o _ (by have := hb.size; omega))
          obtain ⟨x0, x1, x2⟩ := KC.out w2 hb
          exact ⟨(World.cell?_of_block (a := ⟨wr.heap.size, 0, none⟩) e9).trans x0, (World.cell?_of_block (a := ⟨wr.heap.size, 1, none⟩) e9).trans x1, (World.cell?_of_block (a := ⟨wr.heap.size, 2, none⟩) e9).trans x2⟩)
        clear hW1 c0 c1 c2 hsz hlk
        go_region_held_law (fun w' => w'.cell? ⟨wr.heap.size, 0, none⟩ = some (.int .i64 l[k].keep) ∧ w'.cell? ⟨wr.heap.size, 1, none⟩ = some (.string l[k].put) ∧ w'.cell? ⟨wr.heap.size, 2, none⟩ = some (.string l[k].drop))
          (first | assumption | exact KC.out _ (Below.refl _ _) | exact KC.out _ (Below.refl _ _).drew | exact hk9 | exact KC.out _ hb2 | exact KC.out _ (hb2.alloc hb2.size _) | exact KC.out _ hb1)
          (first
            | (go_at_call 70; refine (CD.out _).mono ?_; rintro e w2 ⟨rfl, hq2⟩; have hb2 : Below W1.heap.size W1 w2 := hb1.trans (hq2.mono hb1.size); clear hq2)
            | (go_at_call 70; refine (CP.out _).mono ?_; rintro e w1 ⟨rfl, hq1⟩; have hb1 : Below W1.heap.size W1 w1 := (Below.refl _ _).drew.trans hq1; clear hq1)
            | (refine step_append_lies _ (by rfl) _ _ _ (by rfl) w.heap.size 79 i0 _ 3 40 Tryd.underlying27 hi0 hz0 hz1 hz2 rfl (by omega) (.slice aO k cO) k (encP (l.take k)) (by rfl) (World.ownsRow.alloc (HOW.out w2 hb2) _) ⟨w2.heap.size, 0, none⟩ 1 1 [.int .i64 l[k].keep, .string l[k].put, .string l[k].drop] (by rfl) (by rfl) (cell3_at _ _ (by simp) _ _ _ _) (by simp [Value.oneCell']) (by omega) (by unfold maxLen; omega) (by omega) (by have := HBW.out.size; have := hb2.size; simp; omega) (w2.heap.size + 1) (by simp) ?_; intro gg cap9 w9 hown' hgrow hat hlt9; have hk9 := KX.out w2 hb2 _ w9 hgrow))
        all_goals
          have hbB := HBW.out.trans (hb2.mono HBW.out.size)
          have hbd := hide (below_append hbB (HOW.out w2 hb2) hbB.size hgrow)
          have hnew := hide (pown_app (l := l.take k) (p := l[k]) (by rw [HLK.out]; exact hown'))
          rw [← List.take_succ_eq_append_getElem hlt] at hnew
          clear hown' hgrow hbB hb1 hb2 HOW HBW KC CP CD KX hk9
          go_wp2
          refine ⟨⟨k + 1, by omega, by go_num, hnew, hbd.out⟩, by simp [intOf]; omega⟩
      · obtain rfl : k = l.length := by omega
        rw [List.take_length] at HO
        go_wp2
        go_ret
        exact ⟨_, rfl, HO.out, hbel⟩

theorem pown_lt {w : World} {B : Nat} {v : Value} {l : List Pt} (h : POwn w B v l) : ∀ y, v.ownBlock = some y → B ≤ y ∧ y < w.heap.size := fun y hy => World.ownsRow.lt h y hy

theorem run_none_moreP (w : World) (ty : TypeId) (i : TypeInfo) (hi : Tryd.prog.info? 79 = some i) (b : Addr) (ad : Option Addr) (cap : Nat) : (Builtin.append_ #[27, 27] ty #[.slice (some b) 0 0, .slice ad 0 cap]).run Tryd.prog w = .ok (.slice (some b) 0 0) w := by
  cases ad <;> simp [Builtin.append_, run_underlying Tryd.underlying27, sizeOf, typeInfo, hi, Builtin.lenOf, Builtin.firstCells, storeCells, loadCells, loadCellsFrom]
theorem grown_belowP {w w1 : World} {B n sz : Nat} {e : TypeId} {v : Value} {xs : List Value} (hB : B ≤ w.heap.size) (hown : w.ownsRow B e sz v n xs) (hg : w.grownBy w1 v.ownBlock) : Below B w w1 :=
  ⟨hg.os, hg.tape, hg.output, hg.size, fun k hk => hg.block k (by omega) (fun c => by have := (World.ownsRow.lt hown k c.symm).1; omega)⟩

/-- A row of parts copied into an empty one of one's own. -/
theorem append_parts {ops : Array Oper} {rest : List Oper} {o : Oper} {a : Act} {Q : Exit → Act → World → Prop} (w : World) (hgd : o.guard = none) (s x : Operand)
    (ho : o.op = .call { callee := .builtin .append, args := #[s, x], argTypes := #[27, 27] }) (B : Nat) (b : Addr) (o0 : w.ownsRow B 79 3 (.slice (some b) 0 0) 0 []) (ad : Option Addr) (cap : Nat) (l : List Pt) (hl : l.length ≤ 1048576)
    (hs : a.eval s = .slice (some b) 0 0) (hx : a.eval x = .slice ad l.length cap) (hin : PR w (.slice ad l.length cap) l) (hB : B ≤ w.heap.size)
    (h : ∀ v' w', POwn w' B v' l → Below B w w' → wpList Tryd.prog ops Q rest (a.put o.dst v') w') :
    wpList Tryd.prog ops Q (o :: rest) a w := by
  have hinfo : (Tryd.prog.info? 79).map (fun i => (i.zero, i.size, i.bytes)) = some (some (.agg #[.int .i64 0, .string ⟨#[]⟩, .string ⟨#[]⟩]), 3, 40) := by kernel_rfl
  obtain ⟨i0, hi0, hz0, hz1, hz2⟩ := info_parts hinfo
  by_cases h0 : l = []
  · subst h0
    refine wpList_plain hgd fun K hK => ?_
    have hr := run_none_moreP w o.type i0 hi0 b ad cap
    unfold Oper.wp
    simp [execOp, ho, resolve, invoke, builtin, hs, hx, hr, Result.andThen]
    exact hK _ _ (h _ _ o0 (Below.refl _ _))
  · rcases hin with ⟨c, -⟩ | ⟨g, cap', e, -, -, hg, hc, -⟩
    · exact absurd c h0
    · injection e with e1 e2 e3
      subst e1
      have hp := List.length_pos_iff.2 h0
      have hnews : ∀ j u, (encP l)[j]? = some u → w.cell? ((⟨g, 0, none⟩ : Addr).add j) = some u := fun j u hu => by
        rw [addr0]
        exact hc j u hu
      have hone : ∀ u ∈ encP l, u.oneCell' = true := fun u hu => by
        unfold encP at hu
        obtain ⟨b, -, hb2⟩ := List.mem_flatMap.1 hu
        simp [ptC] at hb2
        rcases hb2 with rfl | rfl | rfl <;> rfl
      refine wpList_append_loc _ hgd _ _ 27 ho B 79 i0 (.agg #[.int .i64 0, .string ⟨#[]⟩, .string ⟨#[]⟩]) 3 40 Tryd.underlying27 hi0 hz0 hz1 hz2 rfl (by decide) _ _ _ hs o0 ⟨g, 0, none⟩ l.length cap (encP l) hx (encP_len l) hnews hone (by unfold maxLen; omega) (by omega) hB ?_ hp
      intro v3 w3 own3 grow3 loc3
      rw [Nat.zero_add] at own3
      exact h v3 w3 own3 (grown_belowP hB o0 grow3)
theorem own_none {w : World} {B : Nat} {g : Nat} (hB : B ≤ w.heap.size) (hg : g = w.heap.size) : (w.alloc (.cells #[] 79)).ownsRow B 79 3 (.slice (some ⟨g, 0, none⟩) 0 0) 0 [] := by
  subst hg
  exact World.ownsRow_made w #[] 0 hB (by unfold maxLen; omega) rfl


/-- An entry and where its parts lie. -/
abbrev EP := En × Value
def encE (ps : List EP) : List Value := ps.flatMap (fun p => [.int .i64 p.1.cl, .int .i64 p.1.sq, p.2])
theorem encE_len (l : List EP) : (encE l).length = l.length * 3 := by
  induction l with
  | nil => rfl
  | cons x l ih => rw [encE, List.flatMap_cons, List.length_append]; change _ + (encE l).length = _; rw [ih]; simp; omega
theorem encE_app (a b : List EP) : encE (a ++ b) = encE a ++ encE b := by simp [encE]
theorem encE_at (l : List EP) : ∀ i (h : i < l.length), (encE l)[i * 3]? = some (.int .i64 l[i].1.cl) ∧ (encE l)[i * 3 + 1]? = some (.int .i64 l[i].1.sq) ∧ (encE l)[i * 3 + 2]? = some l[i].2 := by
  induction l with
  | nil => intro i h; simp at h
  | cons x l ih =>
    intro i h
    have e : encE (x :: l) = [.int .i64 x.1.cl, .int .i64 x.1.sq, x.2] ++ encE l := by simp [encE]
    cases i with
    | zero => rw [e]; simp
    | succ i =>
      have := ih i (by simpa using h)
      rw [e, show (i + 1) * 3 = 3 + i * 3 by omega, show 3 + i * 3 + 1 = 3 + (i * 3 + 1) by omega, show 3 + i * 3 + 2 = 3 + (i * 3 + 2) by omega]
      rw [List.getElem?_append_right (by simp), List.getElem?_append_right (by simp), List.getElem?_append_right (by simp)]
      simpa using this
/-- A row of entries of one's own, all its blocks from B on. -/
structure EO (B : Nat) (w : World) (v : Value) (ps : List EP) : Prop where
  own : w.ownsRow B 62 3 v ps.length (encE ps)
  op : ∀ p ∈ ps, PR w p.2 p.1.op
  lo : ∀ p ∈ ps, ∀ y, p.2.ownBlock = some y → B ≤ y ∧ y < w.heap.size ∧ v.ownBlock ≠ some y
  dis : ps.Pairwise (fun a b => ∀ y, a.2.ownBlock = some y → b.2.ownBlock ≠ some y)
theorem eo_nil (B : Nat) (w : World) : EO B w (.slice none 0 0) [] := ⟨World.ownsRow_nil _ _ _ _, (fun x hx => by cases hx), (fun x hx => by cases hx), .nil⟩
theorem EO.later {B : Nat} {w w1 : World} {v : Value} {ps : List EP} (h : EO B w v ps) (hb : Below w.heap.size w w1) : EO B w1 v ps :=
  ⟨own_below h.own hb, fun p hp => (h.op p hp).later hb, fun x hx y hy => by
    obtain ⟨h1, h2, h3⟩ := h.lo x hx y hy
    exact ⟨h1, Nat.lt_of_lt_of_le h2 hb.size, h3⟩, h.dis⟩
theorem EO.step {B : Nat} {w w1 w2 : World} {v v' x : Value} {ps : List EP} {e : En} {o : Obj} (h : EO B w v ps) (hB : B ≤ w.heap.size) (hb : Below w.heap.size w w1) (hx : PR w1 x e.op) (hxl : ∀ y, x.ownBlock = some y → w.heap.size ≤ y ∧ y < w1.heap.size) (hg : (w1.alloc o).grownBy w2 v.ownBlock) (ho : w2.ownsRow B 62 3 v' (ps.length + 1) (encE ps ++ [.int .i64 e.cl, .int .i64 e.sq, x])) (hor : v'.ownBlock = v.ownBlock ∨ ∀ y, v'.ownBlock = some y → (w1.alloc o).heap.size ≤ y) : EO B w2 v' (ps ++ [(e, x)]) := by
  have hs1 := hb.size
  have hs2 := hg.size
  rw [World.size_alloc] at hs2
  have hvl : ∀ y, v.ownBlock = some y → y < w.heap.size := fun y hy => (World.ownsRow.lt h.own y hy).2
  have k2 : ∀ y, y < w1.heap.size → v.ownBlock ≠ some y → w2.heap[y]? = w1.heap[y]? := fun y hy hn => (hg.block y (by rw [World.size_alloc]; omega) (fun c => hn c.symm)).trans (Below.heap_alloc _ _ _ hy)
  refine ⟨by rw [List.length_append, encE_app]; exact ho, ?_, ?_, ?_⟩
  · intro p hp
    rcases List.mem_append.1 hp with hp | hp
    · exact (h.op p hp).keep (by omega) (fun y hy hl => (k2 y (by omega) (h.lo p hp y hy).2.2).trans (hb.block y hl))
    · simp at hp; subst hp
      exact hx.keep (by omega) (fun y hy hl => k2 y hl (fun c => by have := hvl y c; have := (hxl y hy).1; omega))
  · intro z hz y hy
    rcases List.mem_append.1 hz with hz | hz
    · obtain ⟨q1, q2, q3⟩ := h.lo z hz y hy
      refine ⟨q1, by omega, fun c => ?_⟩
      rcases hor with e | e
      · exact q3 (e ▸ c)
      · have := e y c; rw [World.size_alloc] at this; omega
    · simp at hz; subst hz
      obtain ⟨q1, q2⟩ := hxl y hy
      refine ⟨by omega, by omega, fun c => ?_⟩
      rcases hor with e | e
      · rw [e] at c; have := hvl y c; omega
      · have := e y c; rw [World.size_alloc] at this; omega
  · rw [List.pairwise_append]
    refine ⟨h.dis, List.pairwise_singleton _ _, fun a ha b hb y hy c => ?_⟩
    simp at hb; subst hb
    have := (h.lo a ha y hy).2.1
    have := (hxl y c).1
    omega
theorem EO.sx {B : Nat} {w : World} {v : Value} {ps : List EP} {l : List En} (h : EO B w v ps) (hl : ps.map Prod.fst = l) : SX B w.heap.size w v l := by
  subst hl
  refine ⟨fun y => v.ownBlock = some y ∨ ∃ p ∈ ps, p.2.ownBlock = some y, ?_, ?_⟩
  · rcases Nat.eq_zero_or_pos ps.length with h0 | h0
    · obtain rfl := List.eq_nil_of_length_eq_zero h0
      obtain ⟨a, c, e, -, -⟩ := own_shp h.own
      exact .inl ⟨rfl, a, c, e⟩
    · obtain ⟨g, cap, rfl, h1, h2, h3, h4, h5, h6⟩ := own_cat h.own h0
      have lm : (ps.map Prod.fst).length = ps.length := by simp
      refine .inr ⟨g, 0, cap, fun i => (ps[i]?.map Prod.snd).getD undef, by rw [lm], by omega, by omega, h2, h4, .inl rfl, h6.fz, ?_, ?_, fun i hi hk => by omega, ?_, ?_, fun i hi hk => by omega, ?_⟩
      · intro i hi
        rw [lm] at hi
        rw [List.getElem?_eq_getElem hi, Nat.zero_add]
        exact h5 _ _ (encE_at ps i hi).2.2
      · intro i hi _
        rw [lm] at hi
        rw [Nat.zero_add, List.getElem_map]
        exact ⟨h5 _ _ (encE_at ps i hi).1, h5 _ _ (encE_at ps i hi).2.1⟩
      · intro i hi y hy
        rw [lm] at hi
        rw [List.getElem?_eq_getElem hi] at hy
        exact ⟨.inr ⟨_, List.getElem_mem hi, hy⟩, fun c => (h.lo _ (List.getElem_mem hi) y hy).2.2 (by rw [c]; rfl)⟩
      · intro i j hij hj y hy
        rw [lm] at hj
        rw [List.getElem?_eq_getElem (by omega)] at hy
        rw [List.getElem?_eq_getElem hj]
        exact List.pairwise_iff_getElem.1 h.dis i j (by omega) hj hij y hy
      · intro i hi _
        rw [lm] at hi
        rw [List.getElem?_eq_getElem hi, List.getElem_map]
        exact h.op _ (List.getElem_mem hi)
  · rintro y (hy | ⟨p, hp, hy⟩)
    · exact World.ownsRow.lt h.own y hy
    · have := h.lo p hp y hy
      omega
theorem eo_take {l : List En} {ps : List EP} {k : Nat} {x : Value} (h : ps.map Prod.fst = l.take k) (hk : k < l.length) : (ps ++ [(l[k], x)]).map Prod.fst = l.take (k + 1) := by
  rw [List.map_append, h, List.take_succ_eq_append_getElem hk]
  rfl
theorem Tryd.infoEn : (Tryd.prog.info? 62).map (fun i => (i.zero, i.size, i.bytes)) = some (some (.agg #[.int .i64 0, .int .i64 0, .slice none 0 0]), 3, 40) := by kernel_rfl
/-- What a function that answers a row of entries tells. -/
def LPost (w : World) (l : List En) (e : Ending) (w' : World) : Prop := ∃ v ps, e = .returned v ∧ EO w.heap.size w' v ps ∧ ps.map Prod.fst = l ∧ Below w.heap.size w w'

end Go.Proofs.YtkjioadmebkaoabDoor

set_option linter.unusedVariables false
namespace Go.Proofs.YtkjioadmebkaoabDoor
open Go.RowKit
open Doc1

theorem addr_plus (g o x : Nat) : (⟨g, o, none⟩ : Addr).add x = ⟨g, o + x, none⟩ := by unfold Addr.add; split <;> simp_all
theorem cut_fromE (a : Option Addr) (n cap x : Nat) (h1 : x ≤ n) (h2 : n ≤ cap) : ∃ a', (∀ w : World, (Instr.slice 48 (.slice a n cap) (some (.int .i64 (x : Int))) none none).run Tryd.prog w = .ok (.slice a' (n - x) (cap - x)) w) ∧ ∀ g o, a = some ⟨g, o, none⟩ → x < n → a' = some ⟨g, o + x * 3, none⟩ := by
  cases a with
  | none =>
    refine ⟨none, fun w => ?_, fun g o h => by cases h⟩
    simp [go_sem, Tryd.underlying48, h1]
  | some ad =>
    by_cases hx : cap = x
    · refine ⟨some ad, fun w => ?_, fun g o h hl => by omega⟩
      simp [go_sem, Tryd.underlying48, h1, hx]
    · refine ⟨some (ad.add (x * 3)), fun w => ?_, fun g o h hl => ?_⟩
      · simp [go_sem, Tryd.underlying48, h1, hx]
      · cases h; rw [addr_plus]

/-- A row of entries from the x-th on. -/
theorem EMo.drop {S : Nat → Prop} {w : World} {g off : Nat} {l : List En} {vs : Nat → Value} (h : EMo 0 S w g off l vs 0) (x : Nat) : EMo 0 S w g (off + x * 3) (l.drop x) (fun i => vs (x + i)) 0 where
  lt := h.lt
  inS := h.inS
  fz := h.fz
  c := fun i hi => by
    rw [List.length_drop] at hi
    rw [show off + x * 3 + i * 3 + 2 = off + (x + i) * 3 + 2 by omega]
    exact h.c (x + i) (by omega)
  ua := fun i hi _ => by
    have hi' := hi
    rw [List.length_drop] at hi'
    rw [show off + x * 3 + i * 3 = off + (x + i) * 3 by omega, List.getElem_drop]
    exact h.ua (x + i) (by omega) (Nat.zero_le _)
  ma := fun i hi c => by omega
  opS := fun i hi => h.opS (x + i) (by rw [List.length_drop] at hi; omega)
  dis := fun i j hij hj => h.dis (x + i) (x + j) (by omega) (by rw [List.length_drop] at hj; omega)
  mkd := fun i hi c => by omega
  op := fun i hi _ => by
    have hi' := hi
    rw [List.length_drop] at hi'
    rw [List.getElem_drop]
    exact h.op (x + i) (by omega) (Nat.zero_le _)
theorem EIn.drop {S : Nat → Prop} {w : World} {a a' : Option Addr} {cap g off : Nat} {vs : Nat → Value} {l : List En} (h : EIn S w a cap g off vs l) {x : Nat} (hx : x ≤ l.length) (ha : ∀ g o, a = some ⟨g, o, none⟩ → x < l.length → a' = some ⟨g, o + x * 3, none⟩) : ER S w (.slice a' (l.length - x) (cap - x)) (l.drop x) := by
  by_cases hl : x < l.length
  · obtain ⟨h1, h2, h3, h4⟩ := h (by omega)
    rw [ha g off h1 hl]
    exact .inr ⟨g, off + x * 3, cap - x, fun i => vs (x + i), by rw [List.length_drop], by rw [List.length_drop]; omega, by rw [List.length_drop]; omega, by omega, h4.drop x⟩
  · obtain rfl : x = l.length := by omega
    exact .inl ⟨by simp, a', cap - l.length, by simp⟩
theorem EIn.le {S : Nat → Prop} {w : World} {a : Option Addr} {cap g off : Nat} {vs : Nat → Value} {l : List En} (h : EIn S w a cap g off vs l) : l.length ≤ cap := by
  rcases Nat.eq_zero_or_pos l.length with h0 | h0
  · omega
  · exact (h h0).2.1
theorem SmE.drop {l : List En} (h : SmE l) (x : Nat) : SmE (l.drop x) := by
  refine ⟨by rw [List.length_drop]; have := h.1; omega, fun i hi => ?_⟩
  have hi' := hi
  rw [List.length_drop] at hi'
  have := h.2 (x + i) (by omega)
  simpa only [List.getElem_drop] using this
/-- EntriesFrom's answer. -/
noncomputable def efL (s t : ByteArray) (l : List En) (v : Int) : List En := if taB s t l v = true then l.drop v.toNat else []

end Go.Proofs.YtkjioadmebkaoabDoor
