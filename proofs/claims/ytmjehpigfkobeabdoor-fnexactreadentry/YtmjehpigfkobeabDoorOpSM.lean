/- The contract of the model's own l3Add. The contract of the model's own l3Add, on: where another part is put behind, and where a Put goes ahead of a Drop. The contract of the model's own l3Add, on: a Put goes ahead of a Drop. The contracts of the model's own l3Add of any good part, l3Normal and NormalOp. The contract of the model's own l3Normal. The contract of the model's own NormalOp. The contracts of the model's own l3Invert and InvertOp. The contracts of the model's own l3Apply and ApplyOp. The contract of the model's own ApplyOp. A change done to a text: part by part as the model does it, and byte by byte. -/
import Derived.Test.YtmjehpigfkobeabDoorOpSA
import Derived.Test.YtmjehpigfkobeabDoorFrm
import Derived.Deep.AppendLies
import Derived.Test.YtmjehpigfkobeabDoorOpsM
namespace Go.Proofs.YtmjehpigfkobeabDoor
open Go.RowKit
open Doc1

theorem Tryd.infoPart : (Tryd.prog.info? 83).map (fun i => (i.zero, i.size, i.bytes)) = some (some (.agg #[.int .i64 0, .string ⟨#[]⟩, .string ⟨#[]⟩]), 3, 40) := by kernel_rfl
theorem POwn.app {w : World} {B : Nat} {v : Value} {l : List Pt} {p : Pt} (h : w.ownsRow B 83 3 v (l.length + 1) (encP l ++ ptC p)) : POwn w B v (l ++ [p]) := by
  unfold POwn
  rw [encP_app, List.length_append]
  exact h
/-- One cell of a row is turned. -/
theorem encP_set (a : List Pt) (x x' : Pt) (b : List Pt) (f : Nat) (u : Value) (hf : f < 3) (h : (ptC x).set f u = ptC x') : (encP (a ++ x :: b)).set (a.length * 3 + f) u = encP (a ++ x' :: b) := by
  have e : ∀ y : Pt, encP (a ++ y :: b) = encP a ++ (ptC y ++ encP b) := fun y => by simp [encP]
  rw [e, e, List.set_append_right _ _ (by rw [encP_len]; omega), encP_len, show a.length * 3 + f - a.length * 3 = f by omega, List.set_append_left _ _ (by simp [ptC]; omega), h]
theorem POwn.set {w : World} {B g n cap : Nat} {a b : List Pt} {x x' : Pt} (h : POwn w B (.slice (some ⟨g, 0, none⟩) n cap) (a ++ x :: b)) (hn : n = (a ++ x :: b).length) (f : Nat) (u : Value) (hf : f < 3) (hx : (ptC x).set f u = ptC x') : POwn (w.setCell ⟨g, a.length * 3 + f, none⟩ u) B (.slice (some ⟨g, 0, none⟩) n cap) (a ++ x' :: b) := by
  subst hn
  unfold POwn at h ⊢
  have := (World.ownsRow.stored h (a.length * 3 + f) u).1
  rw [encP_set a x x' b f u hf hx] at this
  have e : (a ++ x' :: b).length = (a ++ x :: b).length := by simp
  rw [e]
  exact this
theorem POwn.shape {w : World} {B : Nat} {v : Value} {l : List Pt} (h : POwn w B v l) (hl : l ≠ []) : ∃ g cap, v = .slice (some ⟨g, 0, none⟩) l.length cap ∧ l.length ≤ cap ∧ cap ≤ maxLen ∧ B ≤ g ∧ g < w.heap.size ∧ CLs w g (encP l) ∧ Blk w g (l.length * 3) := by
  obtain ⟨g, cap, h1, h2, h3, h4, h5, h6, h7⟩ := own_cat h (List.length_pos_iff.2 hl)
  exact ⟨g, cap, h1, h2, h3, h4, h5, h6, by rw [← encP_len]; exact h7⟩
/-- What the model's l3Add leaves. -/
def AddPost (r : Option Nat) (l : List Pt) (p : Pt) (B : Nat) (w : World) (e : Ending) (w' : World) : Prop := ∃ v', e = .returned v' ∧ POwn w' B v' (addP l p) ∧ Fr B r w w' ∧ (v'.ownBlock = r ∨ ∀ y, v'.ownBlock = some y → w.heap.size ≤ y)

/-- What is known of the last part's cells, in the worlds that the walk comes to. -/
structure LastAt (w : World) (g : Nat) (k : Nat) (x : Pt) : Prop where
  c0 : w.cell? ⟨g, k * 3, none⟩ = some (.int .i64 x.keep)
  c1 : w.cell? ⟨g, k * 3 + 1, none⟩ = some (.string x.put)
  c2 : w.cell? ⟨g, k * 3 + 2, none⟩ = some (.string x.drop)
  fz : ∀ j, w.frozen? ⟨g, j, none⟩ = false
  lt : g < w.heap.size
theorem LastAt.al {w : World} {g k : Nat} {x : Pt} (h : LastAt w g k x) (o : Obj) : LastAt (w.alloc o) g k x := by
  have hb := Below.heap_alloc w o g h.lt
  exact ⟨(World.cell?_of_block hb).trans h.c0, (World.cell?_of_block hb).trans h.c1, (World.cell?_of_block hb).trans h.c2, fun j => (World.frozen?_of_block hb).trans (h.fz j), by simp; exact Nat.lt_succ_of_lt h.lt⟩

end Go.Proofs.YtmjehpigfkobeabDoor

namespace Go.Proofs.YtmjehpigfkobeabDoor
open Go.RowKit
open Doc1

end Go.Proofs.YtmjehpigfkobeabDoor

namespace Go.Proofs.YtmjehpigfkobeabDoor
open Go.RowKit
open Doc1

/-- One cell that can be written. -/
structure C1 (w : World) (g j : Nat) (v : Value) : Prop where
  c : w.cell? ⟨g, j, none⟩ = some v
  f : w.frozen? ⟨g, j, none⟩ = false
  lt : g < w.heap.size
theorem C1.al {w : World} {g j : Nat} {v : Value} (h : C1 w g j v) (o : Obj) : C1 (w.alloc o) g j v := by
  have hb := Below.heap_alloc w o g h.lt
  exact ⟨(World.cell?_of_block hb).trans h.c, (World.frozen?_of_block hb).trans h.f, by simp; exact Nat.lt_succ_of_lt h.lt⟩
theorem C1.st {w : World} {g j : Nat} {v : Value} (h : C1 w g j v) (i : Nat) (hi : i ≠ j) (u : Value) : C1 (w.setCell ⟨g, i, none⟩ u) g j v :=
  ⟨by rw [World.cell?_setCell_other _ _ _ _ (off_ne hi)]; exact h.c, by rw [World.frozen?_setCell]; exact h.f, by simpa [World.setCell] using h.lt⟩
theorem set3_own {w : World} {B g n k cap : Nat} {a : List Pt} {x : Pt} (p : Pt) (h : POwn w B (.slice (some ⟨g, 0, none⟩) n cap) (a ++ [x])) (hn : n = a.length + 1) (hk : k = a.length) :
    POwn (((w.setCell ⟨g, k * 3, none⟩ (.int .i64 p.keep)).setCell ⟨g, k * 3 + 1, none⟩ (.string p.put)).setCell ⟨g, k * 3 + 2, none⟩ (.string p.drop)) B (.slice (some ⟨g, 0, none⟩) n cap) (a ++ [p]) := by
  subst hk
  have hn' : n = (a ++ [x]).length := by simp [hn]
  have s1 := POwn.set (x' := ⟨p.keep, x.put, x.drop⟩) h hn' 0 (.int .i64 p.keep) (by omega) rfl
  have s2 := POwn.set (x' := ⟨p.keep, p.put, x.drop⟩) s1 (by simp [hn]) 1 (.string p.put) (by omega) rfl
  exact POwn.set (x' := p) s2 (by simp [hn]) 2 (.string p.drop) (by omega) rfl

end Go.Proofs.YtmjehpigfkobeabDoor

namespace Go.Proofs.YtmjehpigfkobeabDoor
open Go.RowKit
open Doc1

/-- No number and no text of a part is greater. -/
def Bd (M : Nat) (q : Pt) : Prop := q.keep ≤ (M : Int) ∧ q.put.size ≤ M ∧ q.drop.size ≤ M
theorem Bd.mono {M N : Nat} {q : Pt} (h : Bd M q) (hm : M ≤ N) : Bd N q := ⟨by have := h.1; omega, by have := h.2.1; omega, by have := h.2.2; omega⟩
theorem pk_Bd {p : Pt} (h : pk p ≠ 0) : Bd 300 p := by
  unfold pk at h
  unfold Bd
  rw [sz_list, sz_list]
  split at h
  · rename_i hh; rw [hh.1, hh.2.1]; simp; omega
  · split at h
    · rename_i hh; have := good_len hh.2.2.2; rw [hh.1, hh.2.1]; simp only [List.length_nil]; omega
    · split at h
      · rename_i hh; have := good_len hh.2.2.2; rw [hh.1, hh.2.1]; simp only [List.length_nil]; omega
      · exact absurd rfl h
theorem mem_cut {l : List Pt} {q : Pt} (h : q ∈ l.dropLast) : q ∈ l := (List.dropLast_sublist l).subset h
theorem addP_Bd {l : List Pt} {p : Pt} {M : Nat} (hl : ∀ q ∈ l, Bd M q) (hp : Bd 300 p) : ∀ q ∈ addP l p, Bd (M + 300) q := by
  have hl' : ∀ q ∈ l, Bd (M + 300) q := fun q hq => (hl q hq).mono (by omega)
  have hp' : Bd (M + 300) p := hp.mono (by omega)
  intro q hq
  unfold addP at hq
  split at hq
  · exact hl' q hq
  · split at hq
    · rcases List.mem_append.1 hq with h | h
      · exact hl' q h
      · simp at h; subst h; exact hp'
    · rename_i last hlast
      have hbl := hl last (List.mem_of_getLast? hlast)
      split at hq
      · rcases List.mem_append.1 hq with h | h
        · exact hl' q (mem_cut h)
        · simp at h; subst h; exact ⟨by have := hbl.1; have := hp.1; simp only; omega, by have := hbl.2.1; simp only; omega, by have := hbl.2.2; simp only; omega⟩
      · split at hq
        · rcases List.mem_append.1 hq with h | h
          · exact hl' q (mem_cut h)
          · simp at h; subst h; exact ⟨by have := hbl.1; simp only; omega, by have := hbl.2.1; simp only; omega, by have := hbl.2.2; have := hp.2.2; simp only [ByteArray.size_append]; omega⟩
        · split at hq
          · rcases List.mem_append.1 hq with h | h
            · exact hl' q (mem_cut h)
            · simp at h; subst h; exact ⟨by have := hbl.1; simp only; omega, by have := hbl.2.1; have := hp.2.1; simp only [ByteArray.size_append]; omega, by have := hbl.2.2; simp only; omega⟩
          · split at hq
            · split at hq
              · rename_i l2 hl2
                have hb2 := hl l2 (mem_cut (List.mem_of_getLast? hl2))
                split at hq
                · rcases List.mem_append.1 hq with h | h
                  · exact hl' q (mem_cut (mem_cut h))
                  · simp at h
                    rcases h with h | h
                    · subst h; exact ⟨by have := hb2.1; simp only; omega, by have := hb2.2.1; have := hp.2.1; simp only [ByteArray.size_append]; omega, by have := hb2.2.2; simp only; omega⟩
                    · subst h; exact hbl.mono (by omega)
                · rcases List.mem_append.1 hq with h | h
                  · exact hl' q (mem_cut h)
                  · simp at h
                    rcases h with h | h
                    · subst h; exact hp'
                    · subst h; exact hbl.mono (by omega)
              · rcases List.mem_append.1 hq with h | h
                · exact hl' q (mem_cut h)
                · simp at h
                  rcases h with h | h
                  · subst h; exact hp'
                  · subst h; exact hbl.mono (by omega)
            · rcases List.mem_append.1 hq with h | h
              · exact hl' q h
              · simp at h; subst h; exact hp'
theorem addP_len (l : List Pt) (p : Pt) : (addP l p).length ≤ l.length + 1 := by
  have hd := List.length_dropLast (xs := l)
  have hd2 := List.length_dropLast (xs := l.dropLast)
  unfold addP
  split
  · omega
  · split
    · simp
    · rename_i last hlast
      have hne : 0 < l.length := List.length_pos_of_mem (List.mem_of_getLast? hlast)
      split
      · simp <;> omega
      · split
        · simp <;> omega
        · split
          · simp <;> omega
          · split
            · split
              · rename_i l2 hl2
                have hne2 : 0 < l.dropLast.length := List.length_pos_of_mem (List.mem_of_getLast? hl2)
                split
                · simp <;> omega
                · simp <;> omega
              · simp <;> omega
            · simp
theorem last_at {w : World} {g : Nat} {a : List Pt} {x : Pt} (b : List Pt) (hc : CLs w g (encP (a ++ x :: b))) (hb : Blk w g ((a ++ x :: b).length * 3)) (hg : g < w.heap.size) : LastAt w g a.length x := by
  have hi : a.length < (a ++ x :: b).length := by simp
  obtain ⟨c0, c1, c2⟩ := hc.ptat a.length hi
  have e : (a ++ x :: b)[a.length] = x := by simp
  rw [e] at c0 c1 c2
  exact ⟨c0, c1, c2, hb.fz, hg⟩

end Go.Proofs.YtmjehpigfkobeabDoor

namespace Go.Proofs.YtmjehpigfkobeabDoor
open Go.RowKit
open Doc1

theorem norm_take {l : List Pt} {k : Nat} (hk : k < l.length) : normL (l.take (k + 1)) = addP (normL (l.take k)) l[k] := by
  unfold normL
  rw [List.take_succ_eq_append_getElem hk, List.foldl_append]
  rfl
theorem norm_bd (l : List Pt) (h : ∀ p ∈ l, pk p ≠ 0) : ∀ k, k ≤ l.length → (normL (l.take k)).length ≤ k ∧ ∀ q ∈ normL (l.take k), Bd (300 * k) q
  | 0, _ => by simp [normL]
  | k + 1, hk => by
    have ih := norm_bd l h k (by omega)
    rw [norm_take (by omega)]
    have a1 := addP_len (normL (l.take k)) l[k]
    refine ⟨by omega, ?_⟩
    rw [show 300 * (k + 1) = 300 * k + 300 by omega]
    exact addP_Bd ih.2 (pk_Bd (h _ (List.getElem_mem _)))

end Go.Proofs.YtmjehpigfkobeabDoor

namespace Go.Proofs.YtmjehpigfkobeabDoor
open Go.RowKit
open Doc1

/-- What NormalOp answers. -/
def norO (l : List Pt) : List Pt := if goodO l then normL l else []

end Go.Proofs.YtmjehpigfkobeabDoor

namespace Go.Proofs.YtmjehpigfkobeabDoor
open Go.RowKit
open Doc1

/-- A part the other way. -/
def invP (p : Pt) : Pt := ⟨p.keep, p.drop, p.put⟩
theorem invP_pk {p : Pt} (h : pk p ≠ 0) : pk (invP p) ≠ 0 := by
  unfold pk at h ⊢
  unfold invP
  simp only
  split at h
  · rename_i hh; rw [if_pos ⟨hh.2.1, hh.1, hh.2.2⟩]; decide
  · split at h
    · rename_i hh
      split
      · decide
      · split
        · decide
        · first | decide | (split <;> simp_all)
    · split at h
      · rename_i hh
        split
        · decide
        · first | decide | (split <;> first | decide | simp_all)
      · exact absurd rfl h
theorem inv_pk {l : List Pt} (h : ∀ p ∈ l, pk p ≠ 0) : ∀ p ∈ l.map invP, pk p ≠ 0 := by
  intro p hp
  obtain ⟨q, hq, rfl⟩ := List.mem_map.1 hp
  exact invP_pk (h q hq)
theorem inv_take {l : List Pt} {k : Nat} (hk : k < l.length) : normL ((l.map invP).take (k + 1)) = addP (normL ((l.map invP).take k)) (invP l[k]) := by
  rw [norm_take (by simpa using hk)]
  simp

/-- What InvertOp answers. -/
def invO (l : List Pt) : List Pt := if goodO l then normL (l.map invP) else []

end Go.Proofs.YtmjehpigfkobeabDoor

namespace Go.Proofs.YtmjehpigfkobeabDoor
open Go.RowKit
open Doc1

/-- What is left of a text and what is made of it behind a part. -/
def ap1 (so : ByteArray × ByteArray) (p : Pt) : Option (ByteArray × ByteArray) :=
  if so.1.size < p.keep.toNat + p.drop.size then none
  else if p.drop.data.toList ≠ [] ∧ so.1.extract 0 (p.keep.toNat + p.drop.size) ≠ p.drop then none
  else some (so.1.extract (p.keep.toNat + p.drop.size) so.1.size, (if 0 < p.keep then so.2 ++ so.1.extract 0 (p.keep.toNat + p.drop.size) else so.2) ++ p.put)
def apL (l : List Pt) (so : ByteArray × ByteArray) : Option (ByteArray × ByteArray) := l.foldlM ap1 so
theorem ap_take {l : List Pt} {k : Nat} (hk : k < l.length) {so x : ByteArray × ByteArray} (h : apL (l.take k) so = some x) : apL (l.take (k + 1)) so = ap1 x l[k] := by
  unfold apL at *
  rw [List.take_succ_eq_append_getElem hk, List.foldlM_append, h]
  simp
theorem ap_stop {l : List Pt} {k : Nat} (hk : k < l.length) {so x : ByteArray × ByteArray} (h : apL (l.take k) so = some x) (h2 : ap1 x l[k] = none) : apL l so = none := by
  have e : l = l.take (k + 1) ++ l.drop (k + 1) := (List.take_append_drop _ _).symm
  have := ap_take hk h
  rw [h2] at this
  unfold apL at *
  rw [e, List.foldlM_append, this]
  rfl
/-- What l3Apply answers. -/
def apO (l : List Pt) (s : ByteArray) : ByteArray × Bool := match apL l (s, ⟨#[]⟩) with
  | none => (⟨#[]⟩, false)
  | some x => (x.2, x.1.toList.isEmpty)
theorem pk_nat {p : Pt} (h : pk p ≠ 0) : ∃ K : Nat, K ≤ 300 ∧ p.keep = (K : Int) := by
  have h0 : 0 ≤ p.keep := by
    unfold pk at h
    split at h
    · omega
    · split at h
      · omega
      · split at h
        · omega
        · exact absurd rfl h
  exact ⟨p.keep.toNat, by have := (pk_Bd h).1; omega, by omega⟩

theorem pk_drop {p : Pt} (h : pk p ≠ 0) (hD : p.drop.data.toList ≠ []) : p.keep = 0 := by
  unfold pk at h
  split at h
  · rename_i hh; exact absurd hh.2.1 hD
  · split at h
    · rename_i hh; exact hh.1
    · split at h
      · rename_i hh; exact hh.1
      · exact absurd rfl h

set_option maxRecDepth 100000 in
set_option maxHeartbeats 2000000 in
theorem l3Apply_any {w : World} {aw : Option Addr} {g cap : Nat} {l : List Pt} (s : ByteArray) (h : Pin w aw g cap l) (h60 : l.length ≤ 60) (hgp : ∀ p ∈ l, pk p ≠ 0) (hs : s.size ≤ 1048576) :
    Calls Tryd.prog 46 #[.slice aw l.length cap, .string s] w fun e w' => e = .returned (.tuple #[.string (apO l s).1, .bool (apO l s).2]) ∧ Below w.heap.size w w' := by
  have hcp := h.cap
  have H := hide h
  have HG := hide hgp
  clear h hgp
  go_enter Tryd.func46, Tryd.ntmps46
  go_wp2
  go_loopw [1, 6, 12] (fun a b i wr => ∃ (k : Nat) (x y : ByteArray), k ≤ l.length ∧ i = .int .i64 k ∧ a = .string x ∧ b = .string y ∧ x.size ≤ 1048576 ∧ y.size ≤ 1048876 * k ∧ Hid (apL (l.take k) (s, ⟨#[]⟩) = some (x, y)) ∧ Below w.heap.size w wr) (fun _ _ i _ => l.length - (intOf i).toNat)
  case atStart => exact ⟨0, s, ⟨#[]⟩, by omega, rfl, rfl, rfl, hs, by decide, hide rfl, Below.refl _ _⟩
  case round =>
    obtain ⟨k, x, y, hk, rfl, rfl, rfl, hx, hy, hap, hbel⟩ := hrel
    by_cases hlt : k < l.length
    · obtain rfl := H.out.adr hlt
      obtain ⟨c0, c1, c2⟩ := (H.out.later hbel).at'.ptat k hlt
      have hpk := HG.out l[k] (List.getElem_mem hlt)
      have hbd := pk_Bd hpk
      have hsz := H.out.sz k hlt
      obtain ⟨K, hK, hk0⟩ := pk_nat hpk
      have ha := hbel.alloc hbel.size (.cells #[.int .i64 l[k].keep, .string l[k].put, .string l[k].drop] 83)
      have hS := hide (fun h2 => ap_stop hlt hap.out h2)
      have hT := hide (ap_take hlt hap.out)
      have hd2 := hbd.2.2
      have hp2 := hbd.2.1
      have hpk0 := hide hpk
      clear hbd hpk hap
      have e1 := emp_b l[k].drop
      have e2 := sz_list l[k].drop
      by_cases hn : x.size < K + l[k].drop.size
      · have hno : apL l (s, ⟨#[]⟩) = none := hS.out (by unfold ap1; rw [hk0]; simp only [Int.toNat_natCast]; rw [if_pos hn])
        have hO : apO l s = (⟨#[]⟩, false) := by unfold apO; rw [hno]
        have HO := hide hO
        rw [hk0] at c0 ha
        clear hk0
        generalize l[k].drop = D at *
        generalize l[k].put = U at *
        clear hS hT hno hO e1 e2
        have hdk : decide ((x.size : Int) < (K : Int) + (D.size : Int)) = true := decide_eq_true (by omega)
        go_wp2
        go_region
        go_wp2
        go_ret2
        exact ⟨by rw [HO.out]; rfl, ha.drew⟩
      · by_cases hD : l[k].drop.data.toList = []
        · have hV : apL (l.take (k + 1)) (s, ⟨#[]⟩) = some (x.extract (K + l[k].drop.size) x.size, (if 0 < l[k].keep then y ++ x.extract 0 (K + l[k].drop.size) else y) ++ l[k].put) := by
            rw [hT.out]; unfold ap1; rw [hk0]; simp only [Int.toNat_natCast]; rw [if_neg hn, if_neg (fun c => c.1 hD)]
          have HV := hide hV
          rw [decide_eq_true hD] at e1
          rw [hk0] at c0 ha HV
          clear hk0 hV
          generalize l[k].drop = D at *
          generalize l[k].put = U at *
          clear hS hT
          have hD0 : D.size = 0 := by rw [e2, hD]; rfl
          have hdk : decide (x.size < K) = false := decide_eq_false (by omega)
          by_cases hK0 : 0 < K
          · rw [if_pos (by omega)] at HV
            go_wp2
            go_region
            go_wp2
            refine ⟨⟨k + 1, _, _, by omega, by go_num, rfl, rfl, ?_, ?_, ?_, ha.drew⟩, by simp [intOf]; omega⟩
            · rw [ByteArray.size_extract]; omega
            · rw [ByteArray.size_append, ByteArray.size_append, ByteArray.size_extract]; omega
            · rw [hD0] at HV; exact HV
          · rw [if_neg (by omega)] at HV
            go_wp2
            go_region
            go_wp2
            refine ⟨⟨k + 1, _, _, by omega, by go_num, rfl, rfl, ?_, ?_, ?_, ha.drew⟩, by simp [intOf]; omega⟩
            · rw [ByteArray.size_extract]; omega
            · rw [ByteArray.size_append]; omega
            · rw [hD0] at HV; exact HV
        · have hq : l[k].keep = 0 := pk_drop hpk0.out hD
          obtain rfl : K = 0 := by omega
          rw [Nat.zero_add] at hn
          rw [hq] at c0 ha
          by_cases hE : x.extract 0 l[k].drop.size = l[k].drop
          · have hV : apL (l.take (k + 1)) (s, ⟨#[]⟩) = some (x.extract l[k].drop.size x.size, y ++ l[k].put) := by
              rw [hT.out]; unfold ap1; rw [hq]; simp [hn, hE]
            have HV := hide hV
            have hE2 : decide (x.extract 0 l[k].drop.size = l[k].drop) = true := decide_eq_true hE
            have hD3 : l[k].drop.toList.isEmpty = false := by rw [e1]; exact decide_eq_false hD
            clear hk0 hV hq hS hT e1 e2 hpk0
            have hdk : decide (x.size < l[k].drop.size) = false := decide_eq_false hn
            generalize l[k].drop = D at *
            generalize l[k].put = U at *
            go_wp2
            go_region
            go_wp2
            refine ⟨⟨k + 1, _, _, by omega, by go_num, rfl, rfl, ?_, ?_, ?_, ha.drew⟩, by simp [intOf]; omega⟩
            · rw [ByteArray.size_extract]; omega
            · rw [ByteArray.size_append]; omega
            · exact HV
          · have hno : apL l (s, ⟨#[]⟩) = none := hS.out (by unfold ap1; rw [hq]; simp [hn, hE]; exact fun c => hD (by rw [c]))
            have hO : apO l s = (⟨#[]⟩, false) := by unfold apO; rw [hno]
            have HO := hide hO
            have hE2 : decide (x.extract 0 l[k].drop.size = l[k].drop) = false := decide_eq_false hE
            have hD3 : l[k].drop.toList.isEmpty = false := by rw [e1]; exact decide_eq_false hD
            clear hk0 hq hS hT e1 e2 hno hO hpk0
            have hdk : decide (x.size < l[k].drop.size) = false := decide_eq_false hn
            generalize l[k].drop = D at *
            generalize l[k].put = U at *
            have hE3 : ((x.extract 0 D.size).toList == D.toList) = false := by
              rw [ByteArray.toList_eq, ByteArray.toList_eq]; exact beq_eq_false_iff_ne.2 (fun c => hE (ba_eq c))
            clear hE2 hE
            go_wp2
            go_region
            go_wp2
            go_ret2
            exact ⟨by rw [HO.out]; rfl, ha.drew⟩
    · obtain rfl : k = l.length := by omega
      have hO : apO l s = (y, x.toList.isEmpty) := by
        have := hap.out
        rw [List.take_length] at this
        unfold apO; rw [this]
      have HO := hide hO
      clear hO
      go_wp2
      go_ret2
      exact ⟨by rw [HO.out]; rfl, hbel⟩
end Go.Proofs.YtmjehpigfkobeabDoor

namespace Go.Proofs.YtmjehpigfkobeabDoor
open Go.RowKit
open Doc1

/-- What ApplyOp answers. -/
def aplO (l : List Pt) (s : ByteArray) : ByteArray × Bool := if goodO l = true ∧ good s.data.toList = true ∧ (apO l s).2 = true then ((apO l s).1, true) else (⟨#[]⟩, false)

end Go.Proofs.YtmjehpigfkobeabDoor

namespace Go.Proofs.YtmjehpigfkobeabDoor
open Go.RowKit
open Doc1

theorem ext_list (s : ByteArray) (a b : Nat) : (s.extract a b).data.toList = (s.data.toList.take b).drop a := by
  simp [List.extract, List.drop_take]
theorem ba_ext {a b : ByteArray} (h : a.data.toList = b.data.toList) : a = b := by
  cases a; cases b; simp only at h; congr 1; exact Array.toList_inj.1 h
theorem ap_stp {p : Pt} (h : pk p ≠ 0) (s o : ByteArray) : apTL (stp p) (s.data.toList, o.data.toList) = (ap1 (s, o) p).map (fun y => (y.1.data.toList, y.2.data.toList)) := by
  have hsz : s.size = s.data.toList.length := sz_list s
  unfold pk at h
  unfold stp ap1
  simp only
  split at h
  · rename_i hh
    obtain ⟨h1, h2, h3, h4⟩ := hh
    have d0 : p.drop.size = 0 := by rw [sz_list, h2]; rfl
    rw [h1, h2, d0]
    simp only [List.map_nil, List.append_nil, Nat.add_zero, ne_eq, not_true_eq_false, false_and, if_false]
    rw [apTL_keep, ← hsz]
    by_cases hl : s.size < p.keep.toNat
    · rw [if_pos hl, if_pos hl]; rfl
    · rw [if_neg hl, if_neg hl, if_pos (by omega)]
      simp only [Option.map_some, ext_list, ByteArray.data_append, Array.toList_append, h1, List.append_nil, List.drop_zero]
      rw [hsz, List.take_length]
  · split at h
    · rename_i hh
      obtain ⟨h1, h2, h3, h4⟩ := hh
      have d0 : p.drop.size = 0 := by rw [sz_list, h2]; rfl
      rw [h1, h2, d0]
      simp only [Int.toNat_zero, List.replicate_zero, List.map_nil, List.nil_append, List.append_nil, Nat.add_zero, Nat.not_lt_zero, if_false, ne_eq, not_true_eq_false, false_and, Int.lt_irrefl]
      rw [apTL_put]
      simp only [Option.map_some, ext_list, ByteArray.data_append, Array.toList_append, List.drop_zero]
      rw [hsz, List.take_length]
    · split at h
      · rename_i hh
        obtain ⟨h1, h2, h3, h4⟩ := hh
        have d0 : p.drop.size = p.drop.data.toList.length := sz_list _
        rw [h1, h2]
        simp only [Int.toNat_zero, List.replicate_zero, List.map_nil, List.nil_append, Nat.zero_add, Int.lt_irrefl, if_false]
        rw [apTL_drop]
        by_cases hl : s.size < p.drop.size
        · rw [if_pos hl, if_neg]
          · rfl
          · intro e
            have := congrArg List.length e
            rw [List.length_take] at this
            omega
        · rw [if_neg hl]
          by_cases he : s.data.toList.take p.drop.data.toList.length = p.drop.data.toList
          · have e2 : s.extract 0 p.drop.size = p.drop := ba_ext (by rw [ext_list, d0, he]; simp)
            rw [if_pos he, if_neg (fun c => c.2 e2)]
            simp only [Option.map_some, ext_list, ByteArray.data_append, Array.toList_append, h2, List.append_nil]
            rw [hsz, List.take_length, d0]
          · rw [if_neg he, if_pos ⟨h3, fun e => he (by rw [← d0]; have := congrArg (fun b : ByteArray => b.data.toList) e; simp only [ext_list] at this; simpa using this)⟩]
            rfl
      · exact absurd rfl h
theorem ap_stL : ∀ (l : List Pt) (s o : ByteArray), (∀ p ∈ l, pk p ≠ 0) → apTL (stL l) (s.data.toList, o.data.toList) = (apL l (s, o)).map (fun y => (y.1.data.toList, y.2.data.toList))
  | [], s, o, _ => by simp [stL, apTL, apL]
  | p :: l, s, o, h => by
    have e : stL (p :: l) = stp p ++ stL l := by simp [stL]
    have e2 : apL (p :: l) (s, o) = (ap1 (s, o) p).bind (apL l) := by unfold apL; rw [List.foldlM_cons]; rfl
    rw [e, e2, apTL_app, ap_stp (h p (List.mem_cons_self))]
    cases ap1 (s, o) p with
    | none => rfl
    | some y => exact ap_stL l y.1 y.2 (fun q hq => h q (List.mem_cons_of_mem _ hq))
/-- What the model tells, byte by byte. -/
theorem aplO_steps {l : List Pt} (h : goodO l = true) {s : ByteArray} (hs : good s.data.toList = true) :
    (∀ o, (s.size : Int) = tkL l → apTL (stL l) (s.data.toList, []) = some ([], o) → aplO l s = (ba o, true)) ∧ (apTL (stL l) (s.data.toList, []) = none → aplO l s = (⟨#[]⟩, false)) ∧ ((s.size : Int) ≠ tkL l → aplO l s = (⟨#[]⟩, false)) := by
  have hp := goodO_pk h
  have key := ap_stL l s ⟨#[]⟩ hp
  simp only at key
  refine ⟨fun o _ e => ?_, fun e => ?_, fun hne => ?_⟩
  · rw [e] at key
    unfold aplO apO
    cases hx : apL l (s, ⟨#[]⟩) with
    | none => rw [hx] at key; cases key
    | some y =>
      rw [hx] at key
      simp only [Option.map_some, Option.some.injEq, Prod.mk.injEq] at key
      have e1 : y.1.toList.isEmpty = true := by rw [ByteArray.toList_eq, ← key.1]; rfl
      have e2 : y.2 = ba o := ba_ext (by rw [← key.2, ba_list])
      simp only [e1, h, hs, e2, and_self, if_true]
  · rw [e] at key
    unfold aplO apO
    cases hx : apL l (s, ⟨#[]⟩) with
    | none => simp
    | some y => rw [hx] at key; cases key
  · unfold aplO apO
    cases hx : apL l (s, ⟨#[]⟩) with
    | none => simp
    | some y =>
      rw [hx] at key
      have hl := apTL_left (stL l) _ _ _ (fun x hx => (stL_so hp x hx).1) key
      have hs2 := stL_sums l hp
      have e1 : y.1.toList.isEmpty = false := by
        have hl1 : y.1.data.toList = _ := hl.1
        rw [ByteArray.toList_eq, hl1]
        simp only [List.isEmpty_eq_false_iff]
        intro c
        have := congrArg List.length c
        rw [List.length_drop, List.length_nil, ← sz_list] at this
        have := hl.2.1
        rw [← sz_list] at this
        omega
      simp [e1]
end Go.Proofs.YtmjehpigfkobeabDoor
