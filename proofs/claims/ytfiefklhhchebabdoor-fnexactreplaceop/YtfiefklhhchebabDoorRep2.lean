/- Places that do not overlap, as splices; the model's l11Apart and l11Replace. -/
import Derived.Test.YtfiefklhhchebabDoorRep1
import Derived.Test.YtfiefklhhchebabDoorKmp6
import Derived.Test.YtfiefklhhchebabDoorSpSM
set_option linter.unusedVariables false
namespace Go.Proofs.YtfiefklhhchebabDoor
open Go.RowKit
open Doc1

/-- Places apart, and where the last one ends. -/
def apS (n : Nat) (a : List Nat × Nat) (x : Nat) : List Nat × Nat := if a.2 ≤ x then (a.1 ++ [x], x + n) else a
def apA (n : Nat) (l : List Nat) : List Nat × Nat := l.foldl (apS n) ([], 0)
theorem apA_take {n k : Nat} {l : List Nat} (h : k < l.length) : apA n (l.take (k + 1)) = apS n (apA n (l.take k)) l[k] := by
  unfold apA; rw [List.take_succ_eq_append_getElem h, List.foldl_append]; rfl
theorem apA_len (n : Nat) (l : List Nat) : (apA n l).1.length ≤ l.length := by
  have key : ∀ (l : List Nat) (a : List Nat × Nat), (l.foldl (apS n) a).1.length ≤ a.1.length + l.length := by
    intro l
    induction l with
    | nil => intro a; simp
    | cons x l ih =>
      intro a
      have := ih (apS n a x)
      have h2 : (apS n a x).1.length ≤ a.1.length + 1 := by unfold apS; split <;> simp
      simp only [List.foldl_cons, List.length_cons]
      omega
  have := key l ([], 0)
  rw [List.length_nil, Nat.zero_add] at this
  exact this
def spl (n : Nat) (W : ByteArray) (x : Nat) : Spl := ⟨x, x + n, W⟩
theorem apA_asc {s : ByteArray} {n : Nat} (W : ByteArray) (hn : 0 < n) (l : List Nat) (h : ∀ x ∈ l, x + n ≤ s.size) : Asc s ((apA n l).1.map (spl n W)) ∧ (gA s ((apA n l).1.map (spl n W))).2 = (apA n l).2 ∧ ∀ x ∈ (apA n l).1, x ∈ l := by
  have key : ∀ (l : List Nat) (a : List Nat × Nat), (∀ x ∈ l, x + n ≤ s.size) → Asc s (a.1.map (spl n W)) → (gA s (a.1.map (spl n W))).2 = a.2 → Asc s ((l.foldl (apS n) a).1.map (spl n W)) ∧ (gA s ((l.foldl (apS n) a).1.map (spl n W))).2 = (l.foldl (apS n) a).2 ∧ ∀ x ∈ (l.foldl (apS n) a).1, x ∈ a.1 ∨ x ∈ l := by
    intro l
    induction l with
    | nil => intro a _ h1 h2; exact ⟨h1, h2, fun x hx => .inl hx⟩
    | cons x l ih =>
      intro a hl h1 h2
      rw [List.foldl_cons]
      have hx := hl x (by simp)
      have hl2 := fun z hz => hl z (List.mem_cons_of_mem _ hz)
      by_cases ha : a.2 ≤ x
      · have e : apS n a x = (a.1 ++ [x], x + n) := if_pos ha
        rw [e]
        have := ih (a.1 ++ [x], x + n) hl2 (by
          rw [List.map_append]
          exact .snoc h1 (by rw [h2]; exact ha) (by show x < x + n; omega) hx) (by rw [List.map_append]; exact gA_til _ _ _)
        refine ⟨this.1, this.2.1, fun z hz => ?_⟩
        rcases this.2.2 z hz with c | c
        · rcases List.mem_append.1 c with d | d
          · exact .inl d
          · rw [List.mem_singleton] at d; exact .inr (by rw [d]; simp)
        · exact .inr (List.mem_cons_of_mem _ c)
      · have e : apS n a x = a := if_neg ha
        rw [e]
        have := ih a hl2 h1 h2
        exact ⟨this.1, this.2.1, fun z hz => (this.2.2 z hz).imp id (List.mem_cons_of_mem _)⟩
  have := key l ([], 0) h .nil rfl
  exact ⟨this.1, this.2.1, fun x hx => (this.2.2 x hx).elim (fun c => by cases c) id⟩
/-- The places of p in s that do not overlap. -/
def plc (p s : ByteArray) : List Nat := (apA p.size (fnd p.data.toList s.data.toList s.size)).1
theorem fnd_end {p s : ByteArray} (h0 : 0 < p.size) : ∀ x ∈ fnd p.data.toList s.data.toList s.size, x + p.size ≤ s.size := fun x hx => by
  have := ((fnd_mem _).1 hx).1
  simpa using this
theorem plc_len (p s : ByteArray) : (plc p s).length ≤ s.size := Nat.le_trans (apA_len _ _) (fnd_len _ _ _)
theorem plc_is {p s : ByteArray} (h0 : 0 < p.size) {x : Nat} (hx : x ∈ plc p s) : x + p.size ≤ s.size ∧ s.extract x (x + p.size) = p := by
  have hm := (apA_asc (s := s) ⟨#[]⟩ h0 _ (fnd_end h0)).2.2 x hx
  have h := (fnd_mem _).1 hm
  have hle := fnd_end h0 x hm
  refine ⟨hle, ba_eq ?_⟩
  have hl : p.data.toList.length = p.size := by simp
  rw [hl] at h
  have hs := (suf_iff.1 h.2.1).2
  have e1 : (s.extract x (x + p.size)).data.toList = (s.data.toList.drop x).take p.size := by
    simp only [ByteArray.data_extract, Array.toList_extract, List.extract_eq_take_drop, Nat.add_sub_cancel_left]
  have hsl : s.data.toList.length = s.size := by simp
  rw [e1]
  apply List.ext_getElem (by rw [List.length_take, List.length_drop]; omega)
  intro j g1 g2
  rw [hl] at g2
  have := hs j g2
  rw [show x + p.size - p.size + j = x + j by omega, List.getD_eq_getElem?_getD, List.getD_eq_getElem?_getD, List.getElem?_eq_getElem (by omega), List.getElem?_eq_getElem (by omega)] at this
  rw [List.getElem_take, List.getElem_drop]
  exact this.symm
def sps (p s W : ByteArray) : List Spl := (plc p s).map (spl p.size W)
theorem sps_asc {p s : ByteArray} (W : ByteArray) (h0 : 0 < p.size) : Asc s (sps p s W) := (apA_asc W h0 _ (fnd_end h0)).1

def natZ (l : List Nat) : List Int := l.map fun (k : Nat) => (k : Int)
/-- A row of places that is read. -/
theorem places_at {w : World} {B : Nat} {v : Value} {F : List Nat} (h : IOwn w B v (natZ F)) : ∃ a cap, v = .slice a F.length cap ∧ F.length ≤ cap ∧ cap ≤ maxLen ∧ ∀ wy, Below w.heap.size w wy → ∀ j (hj : j < F.length), ∃ g, a = some ⟨g, 0, none⟩ ∧ wy.cell? ⟨g, j, none⟩ = some (.int .i64 (F[j] : Int)) := by
  unfold IOwn at h
  have hl : (natZ F).length = F.length := by unfold natZ; rw [List.length_map]
  rw [hl] at h
  obtain ⟨a, cap, rfl, k1, k2⟩ := own_shp h
  refine ⟨a, cap, rfl, k1, k2, fun wy hb j hj => ?_⟩
  obtain ⟨g, cc, e, -⟩ := own_open h (by omega)
  simp only [Value.slice.injEq] at e
  obtain ⟨e1, -, -⟩ := e
  subst e1
  refine ⟨g, rfl, ?_⟩
  have := World.ownsRow.cellAt (own_below h hb) j (by omega)
  rw [this]
  simp [ints, natZ, hj]

set_option maxRecDepth 100000 in
set_option maxHeartbeats 4000000 in
theorem l11Apart_any (p s : ByteArray) (w : World) (h0 : 0 < p.size) (hp : p.size ≤ 300) (hs : s.size ≤ 300) :
    Calls Tryd.prog 33 #[.string p, .string s] w fun e w' => ∃ v, e = .returned v ∧ IOwn w' w.heap.size v (natZ (plc p s)) ∧ Below w.heap.size w w' := by
  obtain ⟨i0, hi0, hz0, hz1, hz2⟩ := info_parts Tryd.info3
  have HP := hide (l11Find_any p s w h0 hp hs)
  unfold plc
  have hfe := fnd_end (p := p) (s := s) h0
  have hfl := fnd_len p.data.toList s.data.toList s.size
  go_enter Tryd.func33, Tryd.ntmps33
  go_wp2_with fail
  refine HP.out.mono ?_
  rintro e W1 ⟨v, rfl, ho, hb1⟩
  unfold fI at ho
  obtain ⟨F, hF⟩ : ∃ F, fnd p.data.toList s.data.toList s.size = F := ⟨_, rfl⟩
  have HF := hide hF
  rw [hF] at ho hfe hfl
  obtain ⟨a, cap, rfl, k1, k2, hc⟩ := places_at (F := F) ho
  have HC := hide hc
  have HFE := hide hfe
  have HB1 := hide hb1
  clear ho hb1 HP hF hfe hc
  go_wp2
  go_loopw [7, 8, 19] (fun v ve vi wr => ∃ (k E : Nat), k ≤ F.length ∧ vi = .int .i64 (k : Int) ∧ ve = .int .i64 (E : Int) ∧ E ≤ 600 ∧ Hid (E = (apA p.size (F.take k)).2) ∧ ∃ v0, v0 = v ∧ Hid (IOwn wr W1.heap.size v0 (natZ (apA p.size (F.take k)).1) ∧ Below W1.heap.size W1 wr)) (fun _ _ vi _ => F.length - (intOf vi).toNat)
  case atStart => exact ⟨0, 0, by omega, rfl, rfl, by omega, hide rfl, _, rfl, hide ⟨World.ownsRow_nil _ _ _ _, Below.refl _ _⟩⟩
  case round =>
    obtain ⟨k, E, hk, rfl, rfl, hE6, HE, v, hv0, HR⟩ := hrel
    subst hv0
    by_cases hlt : k < F.length
    · obtain ⟨g, rfl, c1⟩ := HC.out wr HR.out.2 k hlt
      have hx := HFE.out F[k] (List.getElem_mem hlt)
      have HT := hide (apA_take (n := p.size) hlt)
      obtain ⟨x, hxd⟩ : ∃ x, F[k] = x := ⟨_, rfl⟩
      rw [hxd] at c1 hx HT
      clear hxd
      by_cases hle : E ≤ x
      · have HS : Hid (apA p.size (F.take (k + 1)) = ((apA p.size (F.take k)).1 ++ [x], x + p.size)) := hide (by rw [HT.out]; unfold apS; rw [if_pos (by rw [← HE.out]; exact hle)])
        have hal := apA_len p.size (F.take k)
        rw [List.length_take] at hal
        have hnl : (natZ (apA p.size (F.take k)).1).length ≤ 300 := by unfold natZ; rw [List.length_map]; omega
        clear HT
        go_wp2_with (at_builtin; (refine wpList_append_own _ rfl _ _ 33 rfl W1.heap.size 3 i0 (.int .i64 0) 1 8 Tryd.underlying33 hi0 hz0 hz1 hz2 rfl (by decide) _ _ _ rfl (World.ownsRow.alloc HR.out.1 _) ⟨wr.heap.size, 0, none⟩ 1 1 [.int .i64 (x : Int)] rfl rfl (World.news_of_block (cs := #[.int .i64 (x : Int)]) (t := 3) (fr := (0, 0)) (heap_alloc_new wr _)) (by simp [Value.oneCell']) (by unfold maxLen; omega) (by omega) (by have := HR.out.2.size; simp; omega) ?_); intro v' w3 own3 grow3 _; (have HR3 : Hid (IOwn w3 W1.heap.size v' (natZ (apA p.size (F.take (k + 1))).1) ∧ Below W1.heap.size W1 w3) := hide ⟨(by rw [HS.out]; unfold IOwn natZ; rw [List.map_append, List.length_append]; unfold ints at own3 ⊢; rw [List.map_append]; exact own3), below_append HR.out.2 HR.out.1 HR.out.2.size grow3⟩); clear own3 grow3 HR)
        exact ⟨⟨k + 1, x + p.size, by omega, by go_num, by go_num, by omega, hide (by rw [HS.out]), _, rfl, HR3⟩, by simp [intOf]; omega⟩
      · have HS : Hid (apA p.size (F.take (k + 1)) = apA p.size (F.take k)) := hide (by rw [HT.out]; unfold apS; rw [if_neg (by rw [← HE.out]; exact hle)])
        clear HT
        go_wp2
        exact ⟨⟨k + 1, E, by omega, by go_num, rfl, hE6, hide (by rw [HS.out]; exact HE.out), _, rfl, hide (by rw [HS.out]; exact HR.out)⟩, by simp [intOf]; omega⟩
    · have HO : Hid (IOwn wr w.heap.size v (natZ (apA p.size (fnd p.data.toList s.data.toList s.size)).1) ∧ Below w.heap.size w wr) := hide ⟨by
        have := HR.out.1
        rw [List.take_of_length_le (by omega)] at this
        rw [HF.out]
        exact own_mono this HB1.out.size, HB1.out.trans (HR.out.2.mono HB1.out.size)⟩
      clear HR
      go_wp2
      go_ret
      exact ⟨v, rfl, HO.out.1, HO.out.2⟩
end Go.Proofs.YtfiefklhhchebabDoor
