/- Places that do not overlap, as splices; the model's l11Apart and l11Replace. The model's l11Replace and ReplaceOp. The walk of the model's l11Replace. The model's ReplaceOp. -/
import Derived.Test.YtfiefklhhchebabDoorRep1
import Derived.Test.YtfiefklhhchebabDoorKmpF
import Derived.Test.YtfiefklhhchebabDoorSpSM
set_option linter.unusedVariables false
namespace Go.Proofs.YtfiefklhhchebabDoor
open Go.RowKit
open Doc1

/-- Places apart, and where the last one ends. -/
def apS (n : Nat) (a : List Nat × Nat) (x : Nat) : List Nat × Nat := if a.2 ≤ x then (a.1 ++ [x], x + n) else a
def apA (n : Nat) (l : List Nat) : List Nat × Nat := l.foldl (apS n) ([], 0)
theorem apA_take {n k : Nat} {l : List Nat} (h : k < l.length) : apA n (l.take (k + 1)) = apS n (apA n (l.take k)) l[k] := by
  unfold apA; rw [List.take_succ_eq_append_getElem h, List.foldl_append]; rfl
theorem apA_len (n : Nat) (l : List Nat) : (apA n l).1.length ≤ l.length := by
  have key : ∀ (l : List Nat) (a : List Nat × Nat), (l.foldl (apS n) a).1.length ≤ a.1.length + l.length := by
    intro l
    induction l with
    | nil => intro a; simp
    | cons x l ih =>
      intro a
      have := ih (apS n a x)
      have h2 : (apS n a x).1.length ≤ a.1.length + 1 := by unfold apS; split <;> simp
      simp only [List.foldl_cons, List.length_cons]
      omega
  have := key l ([], 0)
  rw [List.length_nil, Nat.zero_add] at this
  exact this
def spl (n : Nat) (W : ByteArray) (x : Nat) : Spl := ⟨x, x + n, W⟩
theorem apA_asc {s : ByteArray} {n : Nat} (W : ByteArray) (hn : 0 < n) (l : List Nat) (h : ∀ x ∈ l, x + n ≤ s.size) : Asc s ((apA n l).1.map (spl n W)) ∧ (gA s ((apA n l).1.map (spl n W))).2 = (apA n l).2 ∧ ∀ x ∈ (apA n l).1, x ∈ l := by
  have key : ∀ (l : List Nat) (a : List Nat × Nat), (∀ x ∈ l, x + n ≤ s.size) → Asc s (a.1.map (spl n W)) → (gA s (a.1.map (spl n W))).2 = a.2 → Asc s ((l.foldl (apS n) a).1.map (spl n W)) ∧ (gA s ((l.foldl (apS n) a).1.map (spl n W))).2 = (l.foldl (apS n) a).2 ∧ ∀ x ∈ (l.foldl (apS n) a).1, x ∈ a.1 ∨ x ∈ l := by
    intro l
    induction l with
    | nil => intro a _ h1 h2; exact ⟨h1, h2, fun x hx => .inl hx⟩
    | cons x l ih =>
      intro a hl h1 h2
      rw [List.foldl_cons]
      have hx := hl x (by simp)
      have hl2 := fun z hz => hl z (List.mem_cons_of_mem _ hz)
      by_cases ha : a.2 ≤ x
      · have e : apS n a x = (a.1 ++ [x], x + n) := if_pos ha
        rw [e]
        have := ih (a.1 ++ [x], x + n) hl2 (by
          rw [List.map_append]
          exact .snoc h1 (by rw [h2]; exact ha) (by show x < x + n; omega) hx) (by rw [List.map_append]; exact gA_til _ _ _)
        refine ⟨this.1, this.2.1, fun z hz => ?_⟩
        rcases this.2.2 z hz with c | c
        · rcases List.mem_append.1 c with d | d
          · exact .inl d
          · rw [List.mem_singleton] at d; exact .inr (by rw [d]; simp)
        · exact .inr (List.mem_cons_of_mem _ c)
      · have e : apS n a x = a := if_neg ha
        rw [e]
        have := ih a hl2 h1 h2
        exact ⟨this.1, this.2.1, fun z hz => (this.2.2 z hz).imp id (List.mem_cons_of_mem _)⟩
  have := key l ([], 0) h .nil rfl
  exact ⟨this.1, this.2.1, fun x hx => (this.2.2 x hx).elim (fun c => by cases c) id⟩
/-- The places of p in s that do not overlap. -/
def plc (p s : ByteArray) : List Nat := (apA p.size (fnd p.data.toList s.data.toList s.size)).1
theorem fnd_end {p s : ByteArray} (h0 : 0 < p.size) : ∀ x ∈ fnd p.data.toList s.data.toList s.size, x + p.size ≤ s.size := fun x hx => by
  have := ((fnd_mem _).1 hx).1
  simpa using this
theorem plc_len (p s : ByteArray) : (plc p s).length ≤ s.size := Nat.le_trans (apA_len _ _) (fnd_len _ _ _)
theorem plc_is {p s : ByteArray} (h0 : 0 < p.size) {x : Nat} (hx : x ∈ plc p s) : x + p.size ≤ s.size ∧ s.extract x (x + p.size) = p := by
  have hm := (apA_asc (s := s) ⟨#[]⟩ h0 _ (fnd_end h0)).2.2 x hx
  have h := (fnd_mem _).1 hm
  have hle := fnd_end h0 x hm
  refine ⟨hle, ba_eq ?_⟩
  have hl : p.data.toList.length = p.size := by simp
  rw [hl] at h
  have hs := (suf_iff.1 h.2.1).2
  have e1 : (s.extract x (x + p.size)).data.toList = (s.data.toList.drop x).take p.size := by
    simp only [ByteArray.data_extract, Array.toList_extract, List.extract_eq_take_drop, Nat.add_sub_cancel_left]
  have hsl : s.data.toList.length = s.size := by simp
  rw [e1]
  apply List.ext_getElem (by rw [List.length_take, List.length_drop]; omega)
  intro j g1 g2
  rw [hl] at g2
  have := hs j g2
  rw [show x + p.size - p.size + j = x + j by omega, List.getD_eq_getElem?_getD, List.getD_eq_getElem?_getD, List.getElem?_eq_getElem (by omega), List.getElem?_eq_getElem (by omega)] at this
  rw [List.getElem_take, List.getElem_drop]
  exact this.symm
def sps (p s W : ByteArray) : List Spl := (plc p s).map (spl p.size W)
theorem sps_asc {p s : ByteArray} (W : ByteArray) (h0 : 0 < p.size) : Asc s (sps p s W) := (apA_asc W h0 _ (fnd_end h0)).1

def natZ (l : List Nat) : List Int := l.map fun (k : Nat) => (k : Int)
/-- A row of places that is read. -/
theorem places_at {w : World} {B : Nat} {v : Value} {F : List Nat} (h : IOwn w B v (natZ F)) : ∃ a cap, v = .slice a F.length cap ∧ F.length ≤ cap ∧ cap ≤ maxLen ∧ ∀ wy, Below w.heap.size w wy → ∀ j (hj : j < F.length), ∃ g, a = some ⟨g, 0, none⟩ ∧ wy.cell? ⟨g, j, none⟩ = some (.int .i64 (F[j] : Int)) := by
  unfold IOwn at h
  have hl : (natZ F).length = F.length := by unfold natZ; rw [List.length_map]
  rw [hl] at h
  obtain ⟨a, cap, rfl, k1, k2⟩ := own_shp h
  refine ⟨a, cap, rfl, k1, k2, fun wy hb j hj => ?_⟩
  obtain ⟨g, cc, e, -⟩ := own_open h (by omega)
  simp only [Value.slice.injEq] at e
  obtain ⟨e1, -, -⟩ := e
  subst e1
  refine ⟨g, rfl, ?_⟩
  have := World.ownsRow.cellAt (own_below h hb) j (by omega)
  rw [this]
  simp [ints, natZ, hj]

set_option maxRecDepth 100000 in
set_option maxHeartbeats 4000000 in
theorem l11Apart_any (p s : ByteArray) (w : World) (h0 : 0 < p.size) (hp : p.size ≤ 300) (hs : s.size ≤ 300) :
    Calls Tryd.prog 33 #[.string p, .string s] w fun e w' => ∃ v, e = .returned v ∧ IOwn w' w.heap.size v (natZ (plc p s)) ∧ Below w.heap.size w w' := by
  obtain ⟨i0, hi0, hz0, hz1, hz2⟩ := info_parts Tryd.info3
  have HP := hide (l11Find_any p s w h0 hp hs)
  unfold plc
  have hfe := fnd_end (p := p) (s := s) h0
  have hfl := fnd_len p.data.toList s.data.toList s.size
  go_enter Tryd.func33, Tryd.ntmps33
  go_wp2_with fail
  refine HP.out.mono ?_
  rintro e W1 ⟨v, rfl, ho, hb1⟩
  unfold fI at ho
  obtain ⟨F, hF⟩ : ∃ F, fnd p.data.toList s.data.toList s.size = F := ⟨_, rfl⟩
  have HF := hide hF
  rw [hF] at ho hfe hfl
  obtain ⟨a, cap, rfl, k1, k2, hc⟩ := places_at (F := F) ho
  have HC := hide hc
  have HFE := hide hfe
  have HB1 := hide hb1
  clear ho hb1 HP hF hfe hc
  go_wp2
  go_loopw [7, 8, 19] (fun v ve vi wr => ∃ (k E : Nat), k ≤ F.length ∧ vi = .int .i64 (k : Int) ∧ ve = .int .i64 (E : Int) ∧ E ≤ 600 ∧ Hid (E = (apA p.size (F.take k)).2) ∧ ∃ v0, v0 = v ∧ Hid (IOwn wr W1.heap.size v0 (natZ (apA p.size (F.take k)).1) ∧ Below W1.heap.size W1 wr)) (fun _ _ vi _ => F.length - (intOf vi).toNat)
  case atStart => exact ⟨0, 0, by omega, rfl, rfl, by omega, hide rfl, _, rfl, hide ⟨World.ownsRow_nil _ _ _ _, Below.refl _ _⟩⟩
  case round =>
    obtain ⟨k, E, hk, rfl, rfl, hE6, HE, v, hv0, HR⟩ := hrel
    subst hv0
    by_cases hlt : k < F.length
    · obtain ⟨g, rfl, c1⟩ := HC.out wr HR.out.2 k hlt
      have hx := HFE.out F[k] (List.getElem_mem hlt)
      have HT := hide (apA_take (n := p.size) hlt)
      obtain ⟨x, hxd⟩ : ∃ x, F[k] = x := ⟨_, rfl⟩
      rw [hxd] at c1 hx HT
      clear hxd
      by_cases hle : E ≤ x
      · have HS : Hid (apA p.size (F.take (k + 1)) = ((apA p.size (F.take k)).1 ++ [x], x + p.size)) := hide (by rw [HT.out]; unfold apS; rw [if_pos (by rw [← HE.out]; exact hle)])
        have hal := apA_len p.size (F.take k)
        rw [List.length_take] at hal
        have hnl : (natZ (apA p.size (F.take k)).1).length ≤ 300 := by unfold natZ; rw [List.length_map]; omega
        clear HT
        go_wp2_with (at_builtin; (refine wpList_append_own _ rfl _ _ 33 rfl W1.heap.size 3 i0 (.int .i64 0) 1 8 Tryd.underlying33 hi0 hz0 hz1 hz2 rfl (by decide) _ _ _ rfl (World.ownsRow.alloc HR.out.1 _) ⟨wr.heap.size, 0, none⟩ 1 1 [.int .i64 (x : Int)] rfl rfl (World.news_of_block (cs := #[.int .i64 (x : Int)]) (t := 3) (fr := (0, 0)) (heap_alloc_new wr _)) (by simp [Value.oneCell']) (by unfold maxLen; omega) (by omega) (by have := HR.out.2.size; simp; omega) ?_); intro v' w3 own3 grow3 _; (have HR3 : Hid (IOwn w3 W1.heap.size v' (natZ (apA p.size (F.take (k + 1))).1) ∧ Below W1.heap.size W1 w3) := hide ⟨(by rw [HS.out]; unfold IOwn natZ; rw [List.map_append, List.length_append]; unfold ints at own3 ⊢; rw [List.map_append]; exact own3), below_append HR.out.2 HR.out.1 HR.out.2.size grow3⟩); clear own3 grow3 HR)
        exact ⟨⟨k + 1, x + p.size, by omega, by go_num, by go_num, by omega, hide (by rw [HS.out]), _, rfl, HR3⟩, by simp [intOf]; omega⟩
      · have HS : Hid (apA p.size (F.take (k + 1)) = apA p.size (F.take k)) := hide (by rw [HT.out]; unfold apS; rw [if_neg (by rw [← HE.out]; exact hle)])
        clear HT
        go_wp2
        exact ⟨⟨k + 1, E, by omega, by go_num, rfl, hE6, hide (by rw [HS.out]; exact HE.out), _, rfl, hide (by rw [HS.out]; exact HR.out)⟩, by simp [intOf]; omega⟩
    · have HO : Hid (IOwn wr w.heap.size v (natZ (apA p.size (fnd p.data.toList s.data.toList s.size)).1) ∧ Below w.heap.size w wr) := hide ⟨by
        have := HR.out.1
        rw [List.take_of_length_le (by omega)] at this
        rw [HF.out]
        exact own_mono this HB1.out.size, HB1.out.trans (HR.out.2.mono HB1.out.size)⟩
      clear HR
      go_wp2
      go_ret
      exact ⟨v, rfl, HO.out.1, HO.out.2⟩
end Go.Proofs.YtfiefklhhchebabDoor

set_option linter.unusedVariables false
namespace Go.Proofs.YtfiefklhhchebabDoor
open Go.RowKit
open Doc1

theorem fold_bd : ∀ (l : List Pt), (∀ p ∈ l, nth p ∨ pk p ≠ 0) → (l.foldl addP []).length ≤ l.length ∧ ∀ q ∈ l.foldl addP [], Bd (300 * l.length) q := by
  have key : ∀ (l a : List Pt) (m : Nat), (∀ p ∈ l, nth p ∨ pk p ≠ 0) → a.length ≤ m → (∀ q ∈ a, Bd (300 * m) q) → (l.foldl addP a).length ≤ m + l.length ∧ ∀ q ∈ l.foldl addP a, Bd (300 * (m + l.length)) q := by
    intro l
    induction l with
    | nil => intro a m _ h1 h2; exact ⟨h1, h2⟩
    | cons p l ih =>
      intro a m hl h1 h2
      have := ih (addP a p) (m + 1) (fun q hq => hl q (by simp [hq])) (Nat.le_trans (addP_len a p) (by omega)) (fun q hq => (bd_add h2 (hl p (by simp)) q hq).mono (by omega))
      rw [List.foldl_cons, List.length_cons, show m + (l.length + 1) = m + 1 + l.length by omega]
      exact this
  intro l hl
  have := key l [] 0 hl (Nat.le_refl _) (fun q hq => by cases hq)
  rw [Nat.zero_add] at this
  exact this
theorem pk_keep {n : Nat} (h : n ≤ 300) : nth ⟨(n : Int), e0, e0⟩ ∨ pk ⟨(n : Int), e0, e0⟩ ≠ 0 := by
  by_cases h0 : n = 0
  · left; subst h0; exact ⟨rfl, rfl, rfl⟩
  · right
    unfold pk
    rw [if_pos ⟨rfl, rfl, by show (1 : Int) ≤ n; omega, by show (n : Int) ≤ 300; omega⟩]
    decide
theorem pk_put {b : ByteArray} (h : good b.data.toList = true) : nth ⟨0, b, e0⟩ ∨ pk ⟨0, b, e0⟩ ≠ 0 := by
  by_cases h0 : b.data.toList = []
  · left; exact ⟨rfl, h0, rfl⟩
  · right
    unfold pk
    rw [if_neg (fun c => h0 c.1), if_pos ⟨rfl, rfl, h0, h⟩]
    decide
theorem pk_drp {b : ByteArray} (h : good b.data.toList = true) : nth ⟨0, e0, b⟩ ∨ pk ⟨0, e0, b⟩ ≠ 0 := by
  by_cases h0 : b.data.toList = []
  · left; exact ⟨rfl, rfl, h0⟩
  · right
    unfold pk
    rw [if_neg (fun c => h0 c.2.1), if_neg (fun c => h0 c.2.1), if_pos ⟨rfl, rfl, h0, h⟩]
    decide
theorem gA_ok {p s W : ByteArray} (h0 : 0 < p.size) (hp : good p.data.toList = true) (hs : s.size ≤ 300) (hW : good W.data.toList = true) : ∀ k, (∀ q ∈ (gA s ((sps p s W).take k)).1, nth q ∨ pk q ≠ 0) ∧ (gA s ((sps p s W).take k)).1.length ≤ 3 * k ∧ (gA s ((sps p s W).take k)).2 ≤ s.size
  | 0 => ⟨fun q hq => (by simp [gA] at hq), (by simp [gA]), (by simp [gA])⟩
  | k + 1 => by
    have ih := gA_ok h0 hp hs hW k
    by_cases hk : k < (sps p s W).length
    · rw [List.take_succ_eq_append_getElem hk, gA_snoc]
      have hx : ∃ x ∈ plc p s, (sps p s W)[k] = spl p.size W x := by
        unfold sps at hk ⊢
        rw [List.length_map] at hk
        exact ⟨(plc p s)[k], List.getElem_mem hk, by rw [List.getElem_map]⟩
      obtain ⟨x, hxm, hxe⟩ := hx
      rw [hxe]
      obtain ⟨h1, h2⟩ := plc_is h0 hxm
      refine ⟨fun q hq => ?_, ?_, ?_⟩
      · unfold gS spl at hq
        rcases List.mem_append.1 hq with c | c
        · exact ih.1 q c
        · simp only [List.mem_cons, List.not_mem_nil, or_false] at c
          rcases c with rfl | rfl | rfl
          · exact pk_keep (by omega)
          · exact pk_put hW
          · show nth ⟨0, e0, s.extract x (x + p.size)⟩ ∨ _
            rw [h2]
            exact pk_drp hp
      · unfold gS; rw [List.length_append]; have := ih.2.1; simp only [List.length_cons, List.length_nil]; omega
      · exact h1
    · rw [List.take_of_length_le (by omega)]
      rw [List.take_of_length_le (by omega)] at ih
      exact ⟨ih.1, by have := ih.2.1; omega, ih.2.2⟩
theorem sps_at {p s W : ByteArray} {k : Nat} (h0 : 0 < p.size) (hk : k < (plc p s).length) : gA s ((sps p s W).take (k + 1)) = ((gA s ((sps p s W).take k)).1 ++ [⟨(((plc p s)[k] - (gA s ((sps p s W).take k)).2 : Nat) : Int), e0, e0⟩, ⟨0, W, e0⟩, ⟨0, e0, p⟩], (plc p s)[k] + p.size) ∧ (gA s ((sps p s W).take k)).2 ≤ (plc p s)[k] := by
  have hk2 : k < (sps p s W).length := by unfold sps; rw [List.length_map]; exact hk
  have he : (sps p s W)[k] = spl p.size W (plc p s)[k] := List.getElem_map _
  have h2 := (plc_is h0 (List.getElem_mem hk)).2
  refine ⟨?_, ?_⟩
  · rw [List.take_succ_eq_append_getElem hk2, gA_snoc, he]
    unfold gS spl
    simp only [h2]
  · have := (asc_take (sps_asc (s := s) W h0) k hk2).2.1
    rw [he] at this
    exact this
/-- The parts that are told where with is p: all are kept. -/
theorem keep_more {a b : Nat} (h : a + b ≤ 300) : addP (keepL (a : Int)) ⟨(b : Int), e0, e0⟩ = keepL ((a + b : Nat) : Int) := by
  by_cases hb : b = 0
  · subst hb
    rw [show addP (keepL (a : Int)) ⟨((0 : Nat) : Int), e0, e0⟩ = keepL (a : Int) from if_pos ⟨rfl, rfl, rfl⟩]
    rfl
  · have e1 : keepL ((a + b : Nat) : Int) = [⟨((a + b : Nat) : Int), e0, e0⟩] := by unfold keepL; rw [if_pos ⟨by omega, by omega⟩]; rfl
    rw [e1]
    by_cases ha : a = 0
    · subst ha
      have e2 : keepL ((0 : Nat) : Int) = [] := by unfold keepL; rw [if_neg (by omega)]
      rw [e2]
      unfold addP
      rw [if_neg (fun c => by have := c.1; simp at this; omega)]
      simp
    · have e2 : keepL (a : Int) = [⟨(a : Int), e0, e0⟩] := by unfold keepL; rw [if_pos ⟨by omega, by omega⟩]; rfl
      rw [e2]
      unfold addP
      rw [if_neg (fun c => by have := c.1; simp at this; omega)]
      simp only [List.getLast?_singleton]
      rw [if_pos ⟨by show (0 : Int) < b; omega, by show (0 : Int) < a; omega⟩]
      simp

/-- What l11Replace tells. -/
def repL (p s W : ByteArray) : List Pt := if W = p then keepL (s.size : Int) else (rawG s (sps p s W)).foldl addP []
/-- What is known in its rounds. -/
def accL (p s W : ByteArray) (k : Nat) : List Pt := if W = p then keepL ((gA s ((sps p s W).take k)).2 : Int) else (gA s ((sps p s W).take k)).1.foldl addP []
theorem accL_ok {p s W : ByteArray} (h0 : 0 < p.size) (hp : good p.data.toList = true) (hs : s.size ≤ 300) (hW : good W.data.toList = true) {k : Nat} (hk : k ≤ 300) : (accL p s W k).length ≤ 900 ∧ ∀ q ∈ accL p s W k, Bd 300000 q := by
  have h := gA_ok h0 hp hs hW k
  unfold accL
  split
  · refine ⟨Nat.le_trans (keepL_len _) (by omega), fun q hq => ?_⟩
    unfold keepL at hq
    split at hq
    · rw [List.mem_singleton] at hq
      subst hq
      exact ⟨by show ((gA s ((sps p s W).take k)).2 : Int) ≤ ((300000 : Nat) : Int); omega, by show (0 : Nat) ≤ _; omega, by show (0 : Nat) ≤ _; omega⟩
    · cases hq
  · have := fold_bd _ h.1
    exact ⟨by omega, fun q hq => (this.2 q hq).mono (by omega)⟩
theorem bd_more {l : List Pt} {M : Nat} {p : Pt} (h : l.length ≤ 990 ∧ ∀ q ∈ l, Bd M q) (hp : nth p ∨ pk p ≠ 0) : (addP l p).length ≤ l.length + 1 ∧ ∀ q ∈ addP l p, Bd (M + 300) q := ⟨addP_len _ _, bd_add h.2 hp⟩
end Go.Proofs.YtfiefklhhchebabDoor

set_option linter.unusedVariables false
namespace Go.Proofs.YtfiefklhhchebabDoor
open Go.RowKit
open Doc1

theorem txt_eq {a b : ByteArray} : (a.toList == b.toList) = decide (a = b) := by
  rw [Bool.eq_iff_iff, beq_iff_eq, decide_eq_true_eq, Lib.toList_data, Lib.toList_data]
  exact ⟨fun h => ba_eq h, fun h => by rw [h]⟩

theorem accL_same {p s W : ByteArray} {k : Nat} (hWp : W = p) (h0 : 0 < p.size) (hs3 : s.size ≤ 300) (hk : k < (plc p s).length) : accL p s W (k + 1) = addP (addP (accL p s W k) ⟨(((plc p s)[k] - (gA s ((sps p s W).take k)).2 : Nat) : Int), e0, e0⟩) ⟨(p.size : Int), e0, e0⟩ := by
  have h := sps_at (W := W) (s := s) h0 hk
  have hx := (plc_is h0 (List.getElem_mem hk)).1
  unfold accL
  rw [if_pos hWp, if_pos hWp, keep_more (by omega), keep_more (by omega), h.1, show (gA s ((sps p s W).take k)).2 + ((plc p s)[k] - (gA s ((sps p s W).take k)).2) = (plc p s)[k] by omega]
theorem accL_other {p s W : ByteArray} {k : Nat} (hWp : ¬ W = p) (h0 : 0 < p.size) (hk : k < (plc p s).length) : accL p s W (k + 1) = addP (addP (addP (accL p s W k) ⟨(((plc p s)[k] - (gA s ((sps p s W).take k)).2 : Nat) : Int), e0, e0⟩) ⟨0, W, e0⟩) ⟨0, e0, p⟩ := by
  unfold accL
  rw [if_neg hWp, if_neg hWp, (sps_at (W := W) (s := s) h0 hk).1, List.foldl_append]
  rfl

set_option maxRecDepth 100000 in
set_option maxHeartbeats 8000000 in
theorem l11Replace_any (p s W : ByteArray) (w : World) (h0 : 0 < p.size) (hp : good p.data.toList = true) (hsg : good s.data.toList = true) (hW : good W.data.toList = true) :
    Calls Tryd.prog 19 #[.string s, .string p, .string W] w fun e w' => ∃ v, e = .returned (.tuple #[v, .int .i64 ((plc p s).length : Int)]) ∧ POwn w' w.heap.size v (repL p s W) ∧ Below w.heap.size w w' := by
  have hp3 := good_le' hp
  have hs3 := good_le' hsg
  have HP := hide (l11Apart_any p s w h0 hp3 hs3)
  have hfl := plc_len p s
  have HOK := hide (fun k (hk : k ≤ 300) => accL_ok (W := W) h0 hp hs3 hW hk)
  have HGA := hide (fun k => (gA_ok (W := W) h0 hp hs3 hW k).2.2)
  have HX := hide (fun x hx => (plc_is (s := s) h0 (x := x) hx).1)
  have HAT := hide (fun k hk => sps_at (W := W) (s := s) (k := k) h0 hk)
  have HPK := hide (And.intro hp hW)
  have HRP : Hid (repL p s W = addP (accL p s W (plc p s).length) ⟨((s.size - (gA s (sps p s W)).2 : Nat) : Int), e0, e0⟩) := hide (by
    unfold repL accL
    rw [List.take_of_length_le (by unfold sps; rw [List.length_map]; exact Nat.le_refl _)]
    by_cases hWp : W = p
    · rw [if_pos hWp, if_pos hWp]
      have := (gA_ok (W := W) h0 hp hs3 hW (plc p s).length).2.2
      rw [List.take_of_length_le (by unfold sps; rw [List.length_map]; exact Nat.le_refl _)] at this
      rw [keep_more (by omega), show (gA s (sps p s W)).2 + (s.size - (gA s (sps p s W)).2) = s.size by omega]
    · rw [if_neg hWp, if_neg hWp]
      unfold rawG
      rw [List.foldl_append]; rfl)
  clear hp hW hsg
  go_enter Tryd.func19, Tryd.ntmps19
  go_wp2_with fail
  refine HP.out.mono ?_
  rintro e W1 ⟨v, rfl, ho, hb1⟩
  obtain ⟨a, cap, rfl, k1, k2, hc⟩ := places_at (F := plc p s) ho
  have HC := hide hc
  have HB1 := hide hb1
  have hA0 : accL p s W 0 = [] := by unfold accL; split <;> rfl
  have HA0 := hide hA0
  have hSA : (gA s (sps p s W)).2 = (gA s ((sps p s W).take (plc p s).length)).2 := by
    rw [List.take_of_length_le (by unfold sps; rw [List.length_map]; exact Nat.le_refl _)]
  have HSA := hide hSA
  clear ho hb1 HP hc hA0 hSA
  go_wp2
  go_loopw [8, 9, 18] (fun v va vi wr => ∃ (k A : Nat), k ≤ (plc p s).length ∧ vi = .int .i64 (k : Int) ∧ va = .int .i64 (A : Int) ∧ A ≤ s.size ∧ Hid (A = (gA s ((sps p s W).take k)).2) ∧ ∃ v0, v0 = v ∧ Hid (POwn wr W1.heap.size v0 (accL p s W k) ∧ Below W1.heap.size W1 wr)) (fun _ _ vi _ => (plc p s).length - (intOf vi).toNat)
  case atStart => exact ⟨0, 0, by omega, rfl, rfl, by omega, hide rfl, _, rfl, hide ⟨by rw [HA0.out]; exact World.ownsRow_nil _ _ _ _, Below.refl _ _⟩⟩
  case round =>
    obtain ⟨k, A, hk, rfl, rfl, hA, HAE, v, hv0, HR⟩ := hrel
    subst hv0
    have hac := HOK.out k (by omega)
    obtain ⟨L, hL⟩ : ∃ L, accL p s W k = L := ⟨_, rfl⟩
    by_cases hlt : k < (plc p s).length
    · obtain ⟨g, rfl, c1⟩ := HC.out wr HR.out.2 k hlt
      have hx := HX.out _ (List.getElem_mem hlt)
      have h1 := HAT.out k hlt
      rw [← HAE.out] at h1
      have hle := h1.2
      have HN : Hid ((plc p s)[k] + p.size = (gA s ((sps p s W).take (k + 1))).2) := hide (by rw [h1.1])
      have HS1 := hide (fun (hWp : W = p) => accL_same hWp h0 hs3 hlt)
      have HS2 := hide (fun (hWp : ¬ W = p) => accL_other (s := s) hWp h0 hlt)
      rw [← HAE.out, hL] at HS1 HS2
      rw [hL] at hac
      obtain ⟨x, hxd⟩ : ∃ x, (plc p s)[k] = x := ⟨_, rfl⟩
      rw [hxd] at c1 hx hle HN HS1 HS2
      have HR1 : Hid (POwn wr W1.heap.size v L ∧ Below W1.heap.size W1 wr) := hide (by rw [← hL]; exact HR.out)
      have p1 := pk_keep (n := x - A) (by omega)
      have p2 := pk_put HPK.out.2
      have p3 := pk_drp HPK.out.1
      have p4 := pk_keep (n := p.size) (by omega)
      have b0 : L.length ≤ 900 ∧ ∀ q ∈ L, Bd 300000 q := hac
      have b1 := bd_more ⟨by omega, b0.2⟩ p1
      have A1 := hide (fun (w' : World) v (h : POwn w' W1.heap.size v L) (hB : W1.heap.size ≤ w'.heap.size) => l3Add_opt _ h hB (by omega) (fun q hq => (b0.2 q hq).mono (by omega)) p1)
      have ew : IntKind.i64.wrap ((x : Int) - (A : Int)) = ((x - A : Nat) : Int) := by rw [IntKind.wrap_i64]; omega
      clear hxd h1 hac hL HR HOK HGA
      by_cases hWp : W = p
      · have hq : (W.toList == p.toList) = true := by rw [txt_eq]; exact decide_eq_true hWp
        have HS := hide (HS1.out hWp)
        have A2 := hide (fun (w' : World) v (h : POwn w' W1.heap.size v _) (hB : W1.heap.size ≤ w'.heap.size) => l3Add_opt _ h hB (by omega) (fun q hq => (b1.2 q hq).mono (by omega)) p4)
        unfold ptV at A1 A2
        clear hWp HS1 HS2 b0 b1 p1 p2 p3 p4
        go_wp2_with fail
        refine (A1.out wr v HR1.out.1 HR1.out.2.size).mono ?_
        rintro e w2 ⟨v2, rfl, o2, hb2⟩
        have HB2 := hide (HR1.out.2.trans hb2)
        have O2 := hide o2
        clear o2 hb2 HR1
        go_wp2_with fail
        refine (A2.out w2 v2 O2.out HB2.out.size).mono ?_
        rintro e w3 ⟨v3, rfl, o3, hb3⟩
        have HR3 : Hid (POwn w3 W1.heap.size v3 (accL p s W (k + 1)) ∧ Below W1.heap.size W1 w3) := hide ⟨by rw [HS.out]; exact o3, HB2.out.trans hb3⟩
        clear o3 hb3 O2 A1 A2
        go_wp2
        exact ⟨⟨k + 1, x + p.size, by omega, by go_num, by go_num, by omega, HN, _, rfl, HR3⟩, by simp [intOf]; omega⟩
      · have hq : (W.toList == p.toList) = false := by rw [txt_eq]; exact decide_eq_false hWp
        have HS := hide (HS2.out hWp)
        have b2 := bd_more ⟨by omega, b1.2⟩ p2
        have A2 := hide (fun (w' : World) v (h : POwn w' W1.heap.size v _) (hB : W1.heap.size ≤ w'.heap.size) => l3Add_opt _ h hB (by omega) (fun q hq => (b1.2 q hq).mono (by omega)) p2)
        have A3 := hide (fun (w' : World) v (h : POwn w' W1.heap.size v _) (hB : W1.heap.size ≤ w'.heap.size) => l3Add_opt _ h hB (by omega) (fun q hq => (b2.2 q hq).mono (by omega)) p3)
        unfold ptV at A1 A2 A3
        clear hWp HS1 HS2 b0 b1 b2 p1 p2 p3 p4
        go_wp2_with fail
        refine (A1.out wr v HR1.out.1 HR1.out.2.size).mono ?_
        rintro e w2 ⟨v2, rfl, o2, hb2⟩
        have HB2 := hide (HR1.out.2.trans hb2)
        have O2 := hide o2
        clear o2 hb2 HR1
        go_wp2_with fail
        refine (A2.out w2 v2 O2.out HB2.out.size).mono ?_
        rintro e w3 ⟨v3, rfl, o3, hb3⟩
        have HB3 := hide (HB2.out.trans hb3)
        have O3 := hide o3
        clear o3 hb3 O2 HB2
        go_wp2_with fail
        refine (A3.out w3 v3 O3.out HB3.out.size).mono ?_
        rintro e w4 ⟨v4, rfl, o4, hb4⟩
        have HR3 : Hid (POwn w4 W1.heap.size v4 (accL p s W (k + 1)) ∧ Below W1.heap.size W1 w4) := hide ⟨by rw [HS.out]; exact o4, HB3.out.trans hb4⟩
        clear o4 hb4 O3 A1 A2 A3
        go_wp2
        exact ⟨⟨k + 1, x + p.size, by omega, by go_num, by go_num, by omega, HN, _, rfl, HR3⟩, by simp [intOf]; omega⟩
    · obtain hke : k = (plc p s).length := by omega
      have p1 := pk_keep (n := s.size - A) (by omega)
      rw [hL] at hac
      have A1 := hide (fun (w' : World) v (h : POwn w' W1.heap.size v L) (hB : W1.heap.size ≤ w'.heap.size) => l3Add_opt _ h hB (by omega) (fun q hq => (hac.2 q hq).mono (by omega)) p1)
      unfold ptV at A1
      have ew : IntKind.i64.wrap ((s.size : Int) - (A : Int)) = ((s.size - A : Nat) : Int) := by rw [IntKind.wrap_i64]; omega
      have HR1 : Hid (POwn wr W1.heap.size v L ∧ Below W1.heap.size W1 wr) := hide (by rw [← hL]; exact HR.out)
      have HE : Hid (repL p s W = addP L ⟨((s.size - A : Nat) : Int), e0, e0⟩) := hide (by rw [HRP.out, HSA.out, ← hke, ← HAE.out, hL])
      clear hac hL HR HOK HGA HAE hke p1
      go_wp2_with fail
      refine (A1.out wr v HR1.out.1 HR1.out.2.size).mono ?_
      rintro e w2 ⟨v2, rfl, o2, hb2⟩
      have HO : Hid (POwn w2 w.heap.size v2 (repL p s W) ∧ Below w.heap.size w w2) := hide ⟨by rw [HE.out]; exact POwn.mono o2 HB1.out.size, HB1.out.trans ((HR1.out.2.trans hb2).mono HB1.out.size)⟩
      clear o2 hb2 A1 HR1
      go_wp2
      go_ret2
      exact ⟨_, rfl, HO.out.1, HO.out.2⟩
end Go.Proofs.YtfiefklhhchebabDoor

set_option linter.unusedVariables false
namespace Go.Proofs.YtfiefklhhchebabDoor
open Go.RowKit
open Doc1

theorem repL_bd {p s W : ByteArray} (h0 : 0 < p.size) (hp : good p.data.toList = true) (hs : s.size ≤ 300) (hW : good W.data.toList = true) : (repL p s W).length ≤ 901 ∧ ∀ q ∈ repL p s W, Bd 300300 q := by
  have hl := plc_len p s
  have hac := accL_ok (W := W) h0 hp hs hW (k := (plc p s).length) (by omega)
  unfold accL at hac
  rw [List.take_of_length_le (by unfold sps; rw [List.length_map]; exact Nat.le_refl _)] at hac
  unfold repL
  by_cases hWp : W = p
  · rw [if_pos hWp]
    refine ⟨Nat.le_trans (keepL_len _) (by omega), fun q hq => ?_⟩
    unfold keepL at hq
    split at hq
    · rw [List.mem_singleton] at hq
      subst hq
      exact ⟨by show (s.size : Int) ≤ ((300300 : Nat) : Int); omega, by show (0 : Nat) ≤ _; omega, by show (0 : Nat) ≤ _; omega⟩
    · cases hq
  · rw [if_neg hWp] at hac ⊢
    unfold rawG
    rw [List.foldl_append]
    have := bd_more ⟨by omega, hac.2⟩ (pk_keep (n := s.size - (gA s (sps p s W)).2) (by omega))
    exact ⟨Nat.le_trans this.1 (by omega), this.2⟩
/-- It may be told. -/
def rpOk (p s W : ByteArray) : Bool := said p s && good W.data.toList
def rpB (p s W : ByteArray) : Bool := rpOk p s W && goodO (repL p s W)
def rpT (p s W : ByteArray) : List Pt := if rpB p s W then repL p s W else []
def RoPost (p s W : ByteArray) (w : World) (e : Ending) (w' : World) : Prop := ∃ v, e = .returned (.tuple #[v, .bool (rpB p s W)]) ∧ POwn w' w.heap.size v (rpT p s W) ∧ Below w.heap.size w w'
theorem ro_yes {p s W : ByteArray} {w w' : World} {v : Value} (h : rpB p s W = true) (ho : POwn w' w.heap.size v (repL p s W)) (hb : Below w.heap.size w w') : RoPost p s W w (.returned (.tuple #[v, .bool true])) w' :=
  ⟨v, by rw [h], by unfold rpT; rw [if_pos h]; exact ho, hb⟩
theorem ro_no {p s W : ByteArray} {w w' : World} (h : rpB p s W = false) (hb : Below w.heap.size w w') : RoPost p s W w (.returned (.tuple #[.slice none 0 0, .bool false])) w' :=
  ⟨_, by rw [h], by unfold rpT; rw [h, if_neg (by simp)]; exact World.ownsRow_nil _ _ _ _, hb⟩
theorem rpT_len (p s W : ByteArray) : (rpT p s W).length ≤ 60 := by
  unfold rpT rpB
  split
  · rename_i h; rw [Bool.and_eq_true] at h; exact (goodO_le h.2).1
  · simp

set_option maxRecDepth 100000 in
set_option maxHeartbeats 4000000 in
theorem repS_any (p s W : ByteArray) (w : World) (hp : p.size ≤ 1048576) (hs : s.size ≤ 1048576) (hW : W.size ≤ 1048576) :
    Calls Tryd.prog 10 #[.string s, .string p, .string W] w (RoPost p s W w) := by
  have H := l11Said_any p s w hp hs
  have HG := goodTextS_any W w hW
  by_cases h1 : said p s = true
  · rw [h1] at H
    replace H := hide H
    by_cases h2 : good W.data.toList = true
    · rw [h2] at HG
      replace HG := hide HG
      obtain ⟨-, h0, -, h3, h4, h5⟩ := said_yes h1
      have HR := hide (l11Replace_any p s W w h0 h4 h5 h2)
      have hbd := repL_bd (W := W) h0 h4 h3 h2
      have HGO := hide (fun (w' : World) v (h : POwn w' w.heap.size v (repL p s W)) => goodOpS_own h (fun i hi => by have := hbd.2 _ (List.getElem_mem hi); exact ⟨by have := this.2.1; omega, by have := this.2.2; omega⟩) (by omega))
      have hB : rpB p s W = goodO (repL p s W) := by unfold rpB rpOk; rw [h1, h2]; rfl
      cases hg : goodO (repL p s W) with
      | true =>
        rw [hg] at hB HGO
        have HY := hide (fun v w' ho hb => ro_yes (w := w) (v := v) (w' := w') hB ho hb)
        clear h1 h2 h4 h5 hbd hB hg
        go_enter Tryd.func10, Tryd.ntmps10
        go_wp2_with fail
        refine H.out.mono ?_
        rintro e w' ⟨rfl, hw⟩
        replace hw := hw.symm
        subst hw
        go_wp2_with fail
        refine HG.out.mono ?_
        rintro e w' ⟨rfl, hw⟩
        replace hw := hw.symm
        subst hw
        go_wp2_with fail
        refine HR.out.mono ?_
        rintro e w1 ⟨v, rfl, ho, hb1⟩
        have O1 := hide ho
        clear ho
        go_wp2_with fail
        refine (HGO.out w1 v O1.out).mono ?_
        rintro e w2 ⟨rfl, hb2⟩
        have HY1 := hide (HY.out v w2 (own_below O1.out hb2) (hb1.trans (hb2.mono hb1.size)))
        clear O1 hb1 hb2
        go_wp2
        go_ret2
        exact HY1.out
      | false =>
        rw [hg] at hB HGO
        have HY := hide (fun w' hb => ro_no (w := w) (w' := w') hB hb)
        clear h1 h2 h4 h5 hbd hB hg
        go_enter Tryd.func10, Tryd.ntmps10
        go_wp2_with fail
        refine H.out.mono ?_
        rintro e w' ⟨rfl, hw⟩
        replace hw := hw.symm
        subst hw
        go_wp2_with fail
        refine HG.out.mono ?_
        rintro e w' ⟨rfl, hw⟩
        replace hw := hw.symm
        subst hw
        go_wp2_with fail
        refine HR.out.mono ?_
        rintro e w1 ⟨v, rfl, ho, hb1⟩
        have O1 := hide ho
        clear ho
        go_wp2_with fail
        refine (HGO.out w1 v O1.out).mono ?_
        rintro e w2 ⟨rfl, hb2⟩
        have HY1 := hide (HY.out w2 (hb1.trans (hb2.mono hb1.size)))
        clear O1 hb1 hb2
        go_wp2
        go_ret2
        exact HY1.out
    · rw [Bool.not_eq_true] at h2
      have HY := hide (ro_no (p := p) (s := s) (W := W) (w := w) (by unfold rpB rpOk; rw [h2, Bool.and_false]; rfl) (Below.refl _ _))
      rw [h2] at HG
      replace HG := hide HG
      clear h1 h2
      go_enter Tryd.func10, Tryd.ntmps10
      go_wp2_with fail
      refine H.out.mono ?_
      rintro e w' ⟨rfl, hw⟩
      replace hw := hw.symm
      subst hw
      go_wp2_with fail
      refine HG.out.mono ?_
      rintro e w' ⟨rfl, hw⟩
      replace hw := hw.symm
      subst hw
      go_wp2
      go_ret2
      exact HY.out
  · rw [Bool.not_eq_true] at h1
    have HY := hide (ro_no (p := p) (s := s) (W := W) (w := w) (by unfold rpB rpOk; rw [h1]; rfl) (Below.refl _ _))
    rw [h1] at H
    replace H := hide H
    clear h1 HG
    go_enter Tryd.func10, Tryd.ntmps10
    go_wp2_with fail
    refine H.out.mono ?_
    rintro e w' ⟨rfl, hw⟩
    replace hw := hw.symm
    subst hw
    go_wp2
    go_ret2
    exact HY.out
end Go.Proofs.YtfiefklhhchebabDoor
