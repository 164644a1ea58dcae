/- Places that do not overlap, as splices; the model's l11Apart and l11Replace. The model's l11Replace and ReplaceOp. The walk of the model's l11Replace. The model's ReplaceOp. Rows of splices; the program's replacements. The program's joinTouching. The model's l3Apply at changes of long parts. What replacing makes of a text: the change that does so makes the same. -/
import Derived.Test.YtfiefklhhchebaaDoorRep1
import Derived.Test.YtfiefklhhchebaaDoorKmpG
import Derived.Test.YtfiefklhhchebaaDoorSpSM
import Derived.Test.YtfiefklhhchebaaDoorOpW5
set_option linter.unusedVariables false
namespace Go.Proofs.YtfiefklhhchebaaDoor
open Go.RowKit
open Doc1

/-- Places apart, and where the last one ends. -/
def apS (n : Nat) (a : List Nat × Nat) (x : Nat) : List Nat × Nat := if a.2 ≤ x then (a.1 ++ [x], x + n) else a
def apA (n : Nat) (l : List Nat) : List Nat × Nat := l.foldl (apS n) ([], 0)
theorem apA_take {n k : Nat} {l : List Nat} (h : k < l.length) : apA n (l.take (k + 1)) = apS n (apA n (l.take k)) l[k] := by
  unfold apA; rw [List.take_succ_eq_append_getElem h, List.foldl_append]; rfl
theorem apA_len (n : Nat) (l : List Nat) : (apA n l).1.length ≤ l.length := by
  have key : ∀ (l : List Nat) (a : List Nat × Nat), (l.foldl (apS n) a).1.length ≤ a.1.length + l.length := by
    intro l
    induction l with
    | nil => intro a; simp
    | cons x l ih =>
      intro a
      have := ih (apS n a x)
      have h2 : (apS n a x).1.length ≤ a.1.length + 1 := by unfold apS; split <;> simp
      simp only [List.foldl_cons, List.length_cons]
      omega
  have := key l ([], 0)
  rw [List.length_nil, Nat.zero_add] at this
  exact this
def spl (n : Nat) (W : ByteArray) (x : Nat) : Spl := ⟨x, x + n, W⟩
theorem apA_asc {s : ByteArray} {n : Nat} (W : ByteArray) (hn : 0 < n) (l : List Nat) (h : ∀ x ∈ l, x + n ≤ s.size) : Asc s ((apA n l).1.map (spl n W)) ∧ (gA s ((apA n l).1.map (spl n W))).2 = (apA n l).2 ∧ ∀ x ∈ (apA n l).1, x ∈ l := by
  have key : ∀ (l : List Nat) (a : List Nat × Nat), (∀ x ∈ l, x + n ≤ s.size) → Asc s (a.1.map (spl n W)) → (gA s (a.1.map (spl n W))).2 = a.2 → Asc s ((l.foldl (apS n) a).1.map (spl n W)) ∧ (gA s ((l.foldl (apS n) a).1.map (spl n W))).2 = (l.foldl (apS n) a).2 ∧ ∀ x ∈ (l.foldl (apS n) a).1, x ∈ a.1 ∨ x ∈ l := by
    intro l
    induction l with
    | nil => intro a _ h1 h2; exact ⟨h1, h2, fun x hx => .inl hx⟩
    | cons x l ih =>
      intro a hl h1 h2
      rw [List.foldl_cons]
      have hx := hl x (by simp)
      have hl2 := fun z hz => hl z (List.mem_cons_of_mem _ hz)
      by_cases ha : a.2 ≤ x
      · have e : apS n a x = (a.1 ++ [x], x + n) := if_pos ha
        rw [e]
        have := ih (a.1 ++ [x], x + n) hl2 (by
          rw [List.map_append]
          exact .snoc h1 (by rw [h2]; exact ha) (by show x < x + n; omega) hx) (by rw [List.map_append]; exact gA_til _ _ _)
        refine ⟨this.1, this.2.1, fun z hz => ?_⟩
        rcases this.2.2 z hz with c | c
        · rcases List.mem_append.1 c with d | d
          · exact .inl d
          · rw [List.mem_singleton] at d; exact .inr (by rw [d]; simp)
        · exact .inr (List.mem_cons_of_mem _ c)
      · have e : apS n a x = a := if_neg ha
        rw [e]
        have := ih a hl2 h1 h2
        exact ⟨this.1, this.2.1, fun z hz => (this.2.2 z hz).imp id (List.mem_cons_of_mem _)⟩
  have := key l ([], 0) h .nil rfl
  exact ⟨this.1, this.2.1, fun x hx => (this.2.2 x hx).elim (fun c => by cases c) id⟩
/-- The places of p in s that do not overlap. -/
def plc (p s : ByteArray) : List Nat := (apA p.size (fnd p.data.toList s.data.toList s.size)).1
theorem fnd_end {p s : ByteArray} (h0 : 0 < p.size) : ∀ x ∈ fnd p.data.toList s.data.toList s.size, x + p.size ≤ s.size := fun x hx => by
  have := ((fnd_mem _).1 hx).1
  simpa using this
theorem plc_len (p s : ByteArray) : (plc p s).length ≤ s.size := Nat.le_trans (apA_len _ _) (fnd_len _ _ _)
theorem plc_is {p s : ByteArray} (h0 : 0 < p.size) {x : Nat} (hx : x ∈ plc p s) : x + p.size ≤ s.size ∧ s.extract x (x + p.size) = p := by
  have hm := (apA_asc (s := s) ⟨#[]⟩ h0 _ (fnd_end h0)).2.2 x hx
  have h := (fnd_mem _).1 hm
  have hle := fnd_end h0 x hm
  refine ⟨hle, ba_eq ?_⟩
  have hl : p.data.toList.length = p.size := by simp
  rw [hl] at h
  have hs := (suf_iff.1 h.2.1).2
  have e1 : (s.extract x (x + p.size)).data.toList = (s.data.toList.drop x).take p.size := by
    simp only [ByteArray.data_extract, Array.toList_extract, List.extract_eq_take_drop, Nat.add_sub_cancel_left]
  have hsl : s.data.toList.length = s.size := by simp
  rw [e1]
  apply List.ext_getElem (by rw [List.length_take, List.length_drop]; omega)
  intro j g1 g2
  rw [hl] at g2
  have := hs j g2
  rw [show x + p.size - p.size + j = x + j by omega, List.getD_eq_getElem?_getD, List.getD_eq_getElem?_getD, List.getElem?_eq_getElem (by omega), List.getElem?_eq_getElem (by omega)] at this
  rw [List.getElem_take, List.getElem_drop]
  exact this.symm
def sps (p s W : ByteArray) : List Spl := (plc p s).map (spl p.size W)
theorem sps_asc {p s : ByteArray} (W : ByteArray) (h0 : 0 < p.size) : Asc s (sps p s W) := (apA_asc W h0 _ (fnd_end h0)).1

def natZ (l : List Nat) : List Int := l.map fun (k : Nat) => (k : Int)
/-- A row of places that is read. -/
theorem places_at {w : World} {B : Nat} {v : Value} {F : List Nat} (h : IOwn w B v (natZ F)) : ∃ a cap, v = .slice a F.length cap ∧ F.length ≤ cap ∧ cap ≤ maxLen ∧ ∀ wy, Below w.heap.size w wy → ∀ j (hj : j < F.length), ∃ g, a = some ⟨g, 0, none⟩ ∧ wy.cell? ⟨g, j, none⟩ = some (.int .i64 (F[j] : Int)) := by
  unfold IOwn at h
  have hl : (natZ F).length = F.length := by unfold natZ; rw [List.length_map]
  rw [hl] at h
  obtain ⟨a, cap, rfl, k1, k2⟩ := own_shp h
  refine ⟨a, cap, rfl, k1, k2, fun wy hb j hj => ?_⟩
  obtain ⟨g, cc, e, -⟩ := own_open h (by omega)
  simp only [Value.slice.injEq] at e
  obtain ⟨e1, -, -⟩ := e
  subst e1
  refine ⟨g, rfl, ?_⟩
  have := World.ownsRow.cellAt (own_below h hb) j (by omega)
  rw [this]
  simp [ints, natZ, hj]

set_option maxRecDepth 100000 in
set_option maxHeartbeats 4000000 in
theorem l11Apart_any (p s : ByteArray) (w : World) (h0 : 0 < p.size) (hp : p.size ≤ 300) (hs : s.size ≤ 300) :
    Calls Tryd.prog 55 #[.string p, .string s] w fun e w' => ∃ v, e = .returned v ∧ IOwn w' w.heap.size v (natZ (plc p s)) ∧ Below w.heap.size w w' := by
  obtain ⟨i0, hi0, hz0, hz1, hz2⟩ := info_parts Tryd.info3
  have HP := hide (l11Find_any p s w h0 hp hs)
  unfold plc
  have hfe := fnd_end (p := p) (s := s) h0
  have hfl := fnd_len p.data.toList s.data.toList s.size
  go_enter Tryd.func55, Tryd.ntmps55
  go_wp2_with fail
  refine HP.out.mono ?_
  rintro e W1 ⟨v, rfl, ho, hb1⟩
  unfold fI at ho
  obtain ⟨F, hF⟩ : ∃ F, fnd p.data.toList s.data.toList s.size = F := ⟨_, rfl⟩
  have HF := hide hF
  rw [hF] at ho hfe hfl
  obtain ⟨a, cap, rfl, k1, k2, hc⟩ := places_at (F := F) ho
  have HC := hide hc
  have HFE := hide hfe
  have HB1 := hide hb1
  clear ho hb1 HP hF hfe hc
  go_wp2
  go_loopw [7, 8, 19] (fun v ve vi wr => ∃ (k E : Nat), k ≤ F.length ∧ vi = .int .i64 (k : Int) ∧ ve = .int .i64 (E : Int) ∧ E ≤ 600 ∧ Hid (E = (apA p.size (F.take k)).2) ∧ ∃ v0, v0 = v ∧ Hid (IOwn wr W1.heap.size v0 (natZ (apA p.size (F.take k)).1) ∧ Below W1.heap.size W1 wr)) (fun _ _ vi _ => F.length - (intOf vi).toNat)
  case atStart => exact ⟨0, 0, by omega, rfl, rfl, by omega, hide rfl, _, rfl, hide ⟨World.ownsRow_nil _ _ _ _, Below.refl _ _⟩⟩
  case round =>
    obtain ⟨k, E, hk, rfl, rfl, hE6, HE, v, hv0, HR⟩ := hrel
    subst hv0
    by_cases hlt : k < F.length
    · obtain ⟨g, rfl, c1⟩ := HC.out wr HR.out.2 k hlt
      have hx := HFE.out F[k] (List.getElem_mem hlt)
      have HT := hide (apA_take (n := p.size) hlt)
      obtain ⟨x, hxd⟩ : ∃ x, F[k] = x := ⟨_, rfl⟩
      rw [hxd] at c1 hx HT
      clear hxd
      by_cases hle : E ≤ x
      · have HS : Hid (apA p.size (F.take (k + 1)) = ((apA p.size (F.take k)).1 ++ [x], x + p.size)) := hide (by rw [HT.out]; unfold apS; rw [if_pos (by rw [← HE.out]; exact hle)])
        have hal := apA_len p.size (F.take k)
        rw [List.length_take] at hal
        have hnl : (natZ (apA p.size (F.take k)).1).length ≤ 300 := by unfold natZ; rw [List.length_map]; omega
        clear HT
        go_wp2_with (at_builtin; (refine wpList_append_own _ rfl _ _ 25 rfl W1.heap.size 3 i0 (.int .i64 0) 1 8 Tryd.underlying25 hi0 hz0 hz1 hz2 rfl (by decide) _ _ _ rfl (World.ownsRow.alloc HR.out.1 _) ⟨wr.heap.size, 0, none⟩ 1 1 [.int .i64 (x : Int)] rfl rfl (World.news_of_block (cs := #[.int .i64 (x : Int)]) (t := 3) (fr := (0, 0)) (heap_alloc_new wr _)) (by simp [Value.oneCell']) (by unfold maxLen; omega) (by omega) (by have := HR.out.2.size; simp; omega) ?_); intro v' w3 own3 grow3 _; (have HR3 : Hid (IOwn w3 W1.heap.size v' (natZ (apA p.size (F.take (k + 1))).1) ∧ Below W1.heap.size W1 w3) := hide ⟨(by rw [HS.out]; unfold IOwn natZ; rw [List.map_append, List.length_append]; unfold ints at own3 ⊢; rw [List.map_append]; exact own3), below_append HR.out.2 HR.out.1 HR.out.2.size grow3⟩); clear own3 grow3 HR)
        exact ⟨⟨k + 1, x + p.size, by omega, by go_num, by go_num, by omega, hide (by rw [HS.out]), _, rfl, HR3⟩, by simp [intOf]; omega⟩
      · have HS : Hid (apA p.size (F.take (k + 1)) = apA p.size (F.take k)) := hide (by rw [HT.out]; unfold apS; rw [if_neg (by rw [← HE.out]; exact hle)])
        clear HT
        go_wp2
        exact ⟨⟨k + 1, E, by omega, by go_num, rfl, hE6, hide (by rw [HS.out]; exact HE.out), _, rfl, hide (by rw [HS.out]; exact HR.out)⟩, by simp [intOf]; omega⟩
    · have HO : Hid (IOwn wr w.heap.size v (natZ (apA p.size (fnd p.data.toList s.data.toList s.size)).1) ∧ Below w.heap.size w wr) := hide ⟨by
        have := HR.out.1
        rw [List.take_of_length_le (by omega)] at this
        rw [HF.out]
        exact own_mono this HB1.out.size, HB1.out.trans (HR.out.2.mono HB1.out.size)⟩
      clear HR
      go_wp2
      go_ret
      exact ⟨v, rfl, HO.out.1, HO.out.2⟩
end Go.Proofs.YtfiefklhhchebaaDoor

set_option linter.unusedVariables false
namespace Go.Proofs.YtfiefklhhchebaaDoor
open Go.RowKit
open Doc1

theorem fold_bd : ∀ (l : List Pt), (∀ p ∈ l, nth p ∨ pk p ≠ 0) → (l.foldl addP []).length ≤ l.length ∧ ∀ q ∈ l.foldl addP [], Bd (300 * l.length) q := by
  have key : ∀ (l a : List Pt) (m : Nat), (∀ p ∈ l, nth p ∨ pk p ≠ 0) → a.length ≤ m → (∀ q ∈ a, Bd (300 * m) q) → (l.foldl addP a).length ≤ m + l.length ∧ ∀ q ∈ l.foldl addP a, Bd (300 * (m + l.length)) q := by
    intro l
    induction l with
    | nil => intro a m _ h1 h2; exact ⟨h1, h2⟩
    | cons p l ih =>
      intro a m hl h1 h2
      have := ih (addP a p) (m + 1) (fun q hq => hl q (by simp [hq])) (Nat.le_trans (addP_len a p) (by omega)) (fun q hq => (bd_add h2 (hl p (by simp)) q hq).mono (by omega))
      rw [List.foldl_cons, List.length_cons, show m + (l.length + 1) = m + 1 + l.length by omega]
      exact this
  intro l hl
  have := key l [] 0 hl (Nat.le_refl _) (fun q hq => by cases hq)
  rw [Nat.zero_add] at this
  exact this
theorem pk_keep {n : Nat} (h : n ≤ 300) : nth ⟨(n : Int), e0, e0⟩ ∨ pk ⟨(n : Int), e0, e0⟩ ≠ 0 := by
  by_cases h0 : n = 0
  · left; subst h0; exact ⟨rfl, rfl, rfl⟩
  · right
    unfold pk
    rw [if_pos ⟨rfl, rfl, by show (1 : Int) ≤ n; omega, by show (n : Int) ≤ 300; omega⟩]
    decide
theorem pk_put {b : ByteArray} (h : good b.data.toList = true) : nth ⟨0, b, e0⟩ ∨ pk ⟨0, b, e0⟩ ≠ 0 := by
  by_cases h0 : b.data.toList = []
  · left; exact ⟨rfl, h0, rfl⟩
  · right
    unfold pk
    rw [if_neg (fun c => h0 c.1), if_pos ⟨rfl, rfl, h0, h⟩]
    decide
theorem pk_drp {b : ByteArray} (h : good b.data.toList = true) : nth ⟨0, e0, b⟩ ∨ pk ⟨0, e0, b⟩ ≠ 0 := by
  by_cases h0 : b.data.toList = []
  · left; exact ⟨rfl, rfl, h0⟩
  · right
    unfold pk
    rw [if_neg (fun c => h0 c.2.1), if_neg (fun c => h0 c.2.1), if_pos ⟨rfl, rfl, h0, h⟩]
    decide
theorem gA_ok {p s W : ByteArray} (h0 : 0 < p.size) (hp : good p.data.toList = true) (hs : s.size ≤ 300) (hW : good W.data.toList = true) : ∀ k, (∀ q ∈ (gA s ((sps p s W).take k)).1, nth q ∨ pk q ≠ 0) ∧ (gA s ((sps p s W).take k)).1.length ≤ 3 * k ∧ (gA s ((sps p s W).take k)).2 ≤ s.size
  | 0 => ⟨fun q hq => (by simp [gA] at hq), (by simp [gA]), (by simp [gA])⟩
  | k + 1 => by
    have ih := gA_ok h0 hp hs hW k
    by_cases hk : k < (sps p s W).length
    · rw [List.take_succ_eq_append_getElem hk, gA_snoc]
      have hx : ∃ x ∈ plc p s, (sps p s W)[k] = spl p.size W x := by
        unfold sps at hk ⊢
        rw [List.length_map] at hk
        exact ⟨(plc p s)[k], List.getElem_mem hk, by rw [List.getElem_map]⟩
      obtain ⟨x, hxm, hxe⟩ := hx
      rw [hxe]
      obtain ⟨h1, h2⟩ := plc_is h0 hxm
      refine ⟨fun q hq => ?_, ?_, ?_⟩
      · unfold gS spl at hq
        rcases List.mem_append.1 hq with c | c
        · exact ih.1 q c
        · simp only [List.mem_cons, List.not_mem_nil, or_false] at c
          rcases c with rfl | rfl | rfl
          · exact pk_keep (by omega)
          · exact pk_put hW
          · show nth ⟨0, e0, s.extract x (x + p.size)⟩ ∨ _
            rw [h2]
            exact pk_drp hp
      · unfold gS; rw [List.length_append]; have := ih.2.1; simp only [List.length_cons, List.length_nil]; omega
      · exact h1
    · rw [List.take_of_length_le (by omega)]
      rw [List.take_of_length_le (by omega)] at ih
      exact ⟨ih.1, by have := ih.2.1; omega, ih.2.2⟩
theorem sps_at {p s W : ByteArray} {k : Nat} (h0 : 0 < p.size) (hk : k < (plc p s).length) : gA s ((sps p s W).take (k + 1)) = ((gA s ((sps p s W).take k)).1 ++ [⟨(((plc p s)[k] - (gA s ((sps p s W).take k)).2 : Nat) : Int), e0, e0⟩, ⟨0, W, e0⟩, ⟨0, e0, p⟩], (plc p s)[k] + p.size) ∧ (gA s ((sps p s W).take k)).2 ≤ (plc p s)[k] := by
  have hk2 : k < (sps p s W).length := by unfold sps; rw [List.length_map]; exact hk
  have he : (sps p s W)[k] = spl p.size W (plc p s)[k] := List.getElem_map _
  have h2 := (plc_is h0 (List.getElem_mem hk)).2
  refine ⟨?_, ?_⟩
  · rw [List.take_succ_eq_append_getElem hk2, gA_snoc, he]
    unfold gS spl
    simp only [h2]
  · have := (asc_take (sps_asc (s := s) W h0) k hk2).2.1
    rw [he] at this
    exact this
/-- The parts that are told where with is p: all are kept. -/
theorem keep_more {a b : Nat} (h : a + b ≤ 300) : addP (keepL (a : Int)) ⟨(b : Int), e0, e0⟩ = keepL ((a + b : Nat) : Int) := by
  by_cases hb : b = 0
  · subst hb
    rw [show addP (keepL (a : Int)) ⟨((0 : Nat) : Int), e0, e0⟩ = keepL (a : Int) from if_pos ⟨rfl, rfl, rfl⟩]
    rfl
  · have e1 : keepL ((a + b : Nat) : Int) = [⟨((a + b : Nat) : Int), e0, e0⟩] := by unfold keepL; rw [if_pos ⟨by omega, by omega⟩]; rfl
    rw [e1]
    by_cases ha : a = 0
    · subst ha
      have e2 : keepL ((0 : Nat) : Int) = [] := by unfold keepL; rw [if_neg (by omega)]
      rw [e2]
      unfold addP
      rw [if_neg (fun c => by have := c.1; simp at this; omega)]
      simp
    · have e2 : keepL (a : Int) = [⟨(a : Int), e0, e0⟩] := by unfold keepL; rw [if_pos ⟨by omega, by omega⟩]; rfl
      rw [e2]
      unfold addP
      rw [if_neg (fun c => by have := c.1; simp at this; omega)]
      simp only [List.getLast?_singleton]
      rw [if_pos ⟨by show (0 : Int) < b; omega, by show (0 : Int) < a; omega⟩]
      simp

/-- What l11Replace tells. -/
def repL (p s W : ByteArray) : List Pt := if W = p then keepL (s.size : Int) else (rawG s (sps p s W)).foldl addP []
/-- What is known in its rounds. -/
def accL (p s W : ByteArray) (k : Nat) : List Pt := if W = p then keepL ((gA s ((sps p s W).take k)).2 : Int) else (gA s ((sps p s W).take k)).1.foldl addP []
theorem accL_ok {p s W : ByteArray} (h0 : 0 < p.size) (hp : good p.data.toList = true) (hs : s.size ≤ 300) (hW : good W.data.toList = true) {k : Nat} (hk : k ≤ 300) : (accL p s W k).length ≤ 900 ∧ ∀ q ∈ accL p s W k, Bd 300000 q := by
  have h := gA_ok h0 hp hs hW k
  unfold accL
  split
  · refine ⟨Nat.le_trans (keepL_len _) (by omega), fun q hq => ?_⟩
    unfold keepL at hq
    split at hq
    · rw [List.mem_singleton] at hq
      subst hq
      exact ⟨by show ((gA s ((sps p s W).take k)).2 : Int) ≤ ((300000 : Nat) : Int); omega, by show (0 : Nat) ≤ _; omega, by show (0 : Nat) ≤ _; omega⟩
    · cases hq
  · have := fold_bd _ h.1
    exact ⟨by omega, fun q hq => (this.2 q hq).mono (by omega)⟩
theorem bd_more {l : List Pt} {M : Nat} {p : Pt} (h : l.length ≤ 990 ∧ ∀ q ∈ l, Bd M q) (hp : nth p ∨ pk p ≠ 0) : (addP l p).length ≤ l.length + 1 ∧ ∀ q ∈ addP l p, Bd (M + 300) q := ⟨addP_len _ _, bd_add h.2 hp⟩
end Go.Proofs.YtfiefklhhchebaaDoor

set_option linter.unusedVariables false
namespace Go.Proofs.YtfiefklhhchebaaDoor
open Go.RowKit
open Doc1

theorem txt_eq {a b : ByteArray} : (a.toList == b.toList) = decide (a = b) := by
  rw [Bool.eq_iff_iff, beq_iff_eq, decide_eq_true_eq, Lib.toList_data, Lib.toList_data]
  exact ⟨fun h => ba_eq h, fun h => by rw [h]⟩

theorem accL_same {p s W : ByteArray} {k : Nat} (hWp : W = p) (h0 : 0 < p.size) (hs3 : s.size ≤ 300) (hk : k < (plc p s).length) : accL p s W (k + 1) = addP (addP (accL p s W k) ⟨(((plc p s)[k] - (gA s ((sps p s W).take k)).2 : Nat) : Int), e0, e0⟩) ⟨(p.size : Int), e0, e0⟩ := by
  have h := sps_at (W := W) (s := s) h0 hk
  have hx := (plc_is h0 (List.getElem_mem hk)).1
  unfold accL
  rw [if_pos hWp, if_pos hWp, keep_more (by omega), keep_more (by omega), h.1, show (gA s ((sps p s W).take k)).2 + ((plc p s)[k] - (gA s ((sps p s W).take k)).2) = (plc p s)[k] by omega]
theorem accL_other {p s W : ByteArray} {k : Nat} (hWp : ¬ W = p) (h0 : 0 < p.size) (hk : k < (plc p s).length) : accL p s W (k + 1) = addP (addP (addP (accL p s W k) ⟨(((plc p s)[k] - (gA s ((sps p s W).take k)).2 : Nat) : Int), e0, e0⟩) ⟨0, W, e0⟩) ⟨0, e0, p⟩ := by
  unfold accL
  rw [if_neg hWp, if_neg hWp, (sps_at (W := W) (s := s) h0 hk).1, List.foldl_append]
  rfl

set_option maxRecDepth 100000 in
set_option maxHeartbeats 8000000 in
theorem l11Replace_any (p s W : ByteArray) (w : World) (h0 : 0 < p.size) (hp : good p.data.toList = true) (hsg : good s.data.toList = true) (hW : good W.data.toList = true) :
    Calls Tryd.prog 42 #[.string s, .string p, .string W] w fun e w' => ∃ v, e = .returned (.tuple #[v, .int .i64 ((plc p s).length : Int)]) ∧ POwn w' w.heap.size v (repL p s W) ∧ Below w.heap.size w w' := by
  have hp3 := good_le' hp
  have hs3 := good_le' hsg
  have HP := hide (l11Apart_any p s w h0 hp3 hs3)
  have hfl := plc_len p s
  have HOK := hide (fun k (hk : k ≤ 300) => accL_ok (W := W) h0 hp hs3 hW hk)
  have HGA := hide (fun k => (gA_ok (W := W) h0 hp hs3 hW k).2.2)
  have HX := hide (fun x hx => (plc_is (s := s) h0 (x := x) hx).1)
  have HAT := hide (fun k hk => sps_at (W := W) (s := s) (k := k) h0 hk)
  have HPK := hide (And.intro hp hW)
  have HRP : Hid (repL p s W = addP (accL p s W (plc p s).length) ⟨((s.size - (gA s (sps p s W)).2 : Nat) : Int), e0, e0⟩) := hide (by
    unfold repL accL
    rw [List.take_of_length_le (by unfold sps; rw [List.length_map]; exact Nat.le_refl _)]
    by_cases hWp : W = p
    · rw [if_pos hWp, if_pos hWp]
      have := (gA_ok (W := W) h0 hp hs3 hW (plc p s).length).2.2
      rw [List.take_of_length_le (by unfold sps; rw [List.length_map]; exact Nat.le_refl _)] at this
      rw [keep_more (by omega), show (gA s (sps p s W)).2 + (s.size - (gA s (sps p s W)).2) = s.size by omega]
    · rw [if_neg hWp, if_neg hWp]
      unfold rawG
      rw [List.foldl_append]; rfl)
  clear hp hW hsg
  go_enter Tryd.func42, Tryd.ntmps42
  go_wp2_with fail
  refine HP.out.mono ?_
  rintro e W1 ⟨v, rfl, ho, hb1⟩
  obtain ⟨a, cap, rfl, k1, k2, hc⟩ := places_at (F := plc p s) ho
  have HC := hide hc
  have HB1 := hide hb1
  have hA0 : accL p s W 0 = [] := by unfold accL; split <;> rfl
  have HA0 := hide hA0
  have hSA : (gA s (sps p s W)).2 = (gA s ((sps p s W).take (plc p s).length)).2 := by
    rw [List.take_of_length_le (by unfold sps; rw [List.length_map]; exact Nat.le_refl _)]
  have HSA := hide hSA
  clear ho hb1 HP hc hA0 hSA
  go_wp2
  go_loopw [8, 9, 18] (fun v va vi wr => ∃ (k A : Nat), k ≤ (plc p s).length ∧ vi = .int .i64 (k : Int) ∧ va = .int .i64 (A : Int) ∧ A ≤ s.size ∧ Hid (A = (gA s ((sps p s W).take k)).2) ∧ ∃ v0, v0 = v ∧ Hid (POwn wr W1.heap.size v0 (accL p s W k) ∧ Below W1.heap.size W1 wr)) (fun _ _ vi _ => (plc p s).length - (intOf vi).toNat)
  case atStart => exact ⟨0, 0, by omega, rfl, rfl, by omega, hide rfl, _, rfl, hide ⟨by rw [HA0.out]; exact World.ownsRow_nil _ _ _ _, Below.refl _ _⟩⟩
  case round =>
    obtain ⟨k, A, hk, rfl, rfl, hA, HAE, v, hv0, HR⟩ := hrel
    subst hv0
    have hac := HOK.out k (by omega)
    obtain ⟨L, hL⟩ : ∃ L, accL p s W k = L := ⟨_, rfl⟩
    by_cases hlt : k < (plc p s).length
    · obtain ⟨g, rfl, c1⟩ := HC.out wr HR.out.2 k hlt
      have hx := HX.out _ (List.getElem_mem hlt)
      have h1 := HAT.out k hlt
      rw [← HAE.out] at h1
      have hle := h1.2
      have HN : Hid ((plc p s)[k] + p.size = (gA s ((sps p s W).take (k + 1))).2) := hide (by rw [h1.1])
      have HS1 := hide (fun (hWp : W = p) => accL_same hWp h0 hs3 hlt)
      have HS2 := hide (fun (hWp : ¬ W = p) => accL_other (s := s) hWp h0 hlt)
      rw [← HAE.out, hL] at HS1 HS2
      rw [hL] at hac
      obtain ⟨x, hxd⟩ : ∃ x, (plc p s)[k] = x := ⟨_, rfl⟩
      rw [hxd] at c1 hx hle HN HS1 HS2
      have HR1 : Hid (POwn wr W1.heap.size v L ∧ Below W1.heap.size W1 wr) := hide (by rw [← hL]; exact HR.out)
      have p1 := pk_keep (n := x - A) (by omega)
      have p2 := pk_put HPK.out.2
      have p3 := pk_drp HPK.out.1
      have p4 := pk_keep (n := p.size) (by omega)
      have b0 : L.length ≤ 900 ∧ ∀ q ∈ L, Bd 300000 q := hac
      have b1 := bd_more ⟨by omega, b0.2⟩ p1
      have A1 := hide (fun (w' : World) v (h : POwn w' W1.heap.size v L) (hB : W1.heap.size ≤ w'.heap.size) => l3Add_opt _ h hB (by omega) (fun q hq => (b0.2 q hq).mono (by omega)) p1)
      have ew : IntKind.i64.wrap ((x : Int) - (A : Int)) = ((x - A : Nat) : Int) := by rw [IntKind.wrap_i64]; omega
      clear hxd h1 hac hL HR HOK HGA
      by_cases hWp : W = p
      · have hq : (W.toList == p.toList) = true := by rw [txt_eq]; exact decide_eq_true hWp
        have HS := hide (HS1.out hWp)
        have A2 := hide (fun (w' : World) v (h : POwn w' W1.heap.size v _) (hB : W1.heap.size ≤ w'.heap.size) => l3Add_opt _ h hB (by omega) (fun q hq => (b1.2 q hq).mono (by omega)) p4)
        unfold ptV at A1 A2
        clear hWp HS1 HS2 b0 b1 p1 p2 p3 p4
        go_wp2_with fail
        refine (A1.out wr v HR1.out.1 HR1.out.2.size).mono ?_
        rintro e w2 ⟨v2, rfl, o2, hb2⟩
        have HB2 := hide (HR1.out.2.trans hb2)
        have O2 := hide o2
        clear o2 hb2 HR1
        go_wp2_with fail
        refine (A2.out w2 v2 O2.out HB2.out.size).mono ?_
        rintro e w3 ⟨v3, rfl, o3, hb3⟩
        have HR3 : Hid (POwn w3 W1.heap.size v3 (accL p s W (k + 1)) ∧ Below W1.heap.size W1 w3) := hide ⟨by rw [HS.out]; exact o3, HB2.out.trans hb3⟩
        clear o3 hb3 O2 A1 A2
        go_wp2
        exact ⟨⟨k + 1, x + p.size, by omega, by go_num, by go_num, by omega, HN, _, rfl, HR3⟩, by simp [intOf]; omega⟩
      · have hq : (W.toList == p.toList) = false := by rw [txt_eq]; exact decide_eq_false hWp
        have HS := hide (HS2.out hWp)
        have b2 := bd_more ⟨by omega, b1.2⟩ p2
        have A2 := hide (fun (w' : World) v (h : POwn w' W1.heap.size v _) (hB : W1.heap.size ≤ w'.heap.size) => l3Add_opt _ h hB (by omega) (fun q hq => (b1.2 q hq).mono (by omega)) p2)
        have A3 := hide (fun (w' : World) v (h : POwn w' W1.heap.size v _) (hB : W1.heap.size ≤ w'.heap.size) => l3Add_opt _ h hB (by omega) (fun q hq => (b2.2 q hq).mono (by omega)) p3)
        unfold ptV at A1 A2 A3
        clear hWp HS1 HS2 b0 b1 b2 p1 p2 p3 p4
        go_wp2_with fail
        refine (A1.out wr v HR1.out.1 HR1.out.2.size).mono ?_
        rintro e w2 ⟨v2, rfl, o2, hb2⟩
        have HB2 := hide (HR1.out.2.trans hb2)
        have O2 := hide o2
        clear o2 hb2 HR1
        go_wp2_with fail
        refine (A2.out w2 v2 O2.out HB2.out.size).mono ?_
        rintro e w3 ⟨v3, rfl, o3, hb3⟩
        have HB3 := hide (HB2.out.trans hb3)
        have O3 := hide o3
        clear o3 hb3 O2 HB2
        go_wp2_with fail
        refine (A3.out w3 v3 O3.out HB3.out.size).mono ?_
        rintro e w4 ⟨v4, rfl, o4, hb4⟩
        have HR3 : Hid (POwn w4 W1.heap.size v4 (accL p s W (k + 1)) ∧ Below W1.heap.size W1 w4) := hide ⟨by rw [HS.out]; exact o4, HB3.out.trans hb4⟩
        clear o4 hb4 O3 A1 A2 A3
        go_wp2
        exact ⟨⟨k + 1, x + p.size, by omega, by go_num, by go_num, by omega, HN, _, rfl, HR3⟩, by simp [intOf]; omega⟩
    · obtain hke : k = (plc p s).length := by omega
      have p1 := pk_keep (n := s.size - A) (by omega)
      rw [hL] at hac
      have A1 := hide (fun (w' : World) v (h : POwn w' W1.heap.size v L) (hB : W1.heap.size ≤ w'.heap.size) => l3Add_opt _ h hB (by omega) (fun q hq => (hac.2 q hq).mono (by omega)) p1)
      unfold ptV at A1
      have ew : IntKind.i64.wrap ((s.size : Int) - (A : Int)) = ((s.size - A : Nat) : Int) := by rw [IntKind.wrap_i64]; omega
      have HR1 : Hid (POwn wr W1.heap.size v L ∧ Below W1.heap.size W1 wr) := hide (by rw [← hL]; exact HR.out)
      have HE : Hid (repL p s W = addP L ⟨((s.size - A : Nat) : Int), e0, e0⟩) := hide (by rw [HRP.out, HSA.out, ← hke, ← HAE.out, hL])
      clear hac hL HR HOK HGA HAE hke p1
      go_wp2_with fail
      refine (A1.out wr v HR1.out.1 HR1.out.2.size).mono ?_
      rintro e w2 ⟨v2, rfl, o2, hb2⟩
      have HO : Hid (POwn w2 w.heap.size v2 (repL p s W) ∧ Below w.heap.size w w2) := hide ⟨by rw [HE.out]; exact POwn.mono o2 HB1.out.size, HB1.out.trans ((HR1.out.2.trans hb2).mono HB1.out.size)⟩
      clear o2 hb2 A1 HR1
      go_wp2
      go_ret2
      exact ⟨_, rfl, HO.out.1, HO.out.2⟩
end Go.Proofs.YtfiefklhhchebaaDoor

set_option linter.unusedVariables false
namespace Go.Proofs.YtfiefklhhchebaaDoor
open Go.RowKit
open Doc1

theorem repL_bd {p s W : ByteArray} (h0 : 0 < p.size) (hp : good p.data.toList = true) (hs : s.size ≤ 300) (hW : good W.data.toList = true) : (repL p s W).length ≤ 901 ∧ ∀ q ∈ repL p s W, Bd 300300 q := by
  have hl := plc_len p s
  have hac := accL_ok (W := W) h0 hp hs hW (k := (plc p s).length) (by omega)
  unfold accL at hac
  rw [List.take_of_length_le (by unfold sps; rw [List.length_map]; exact Nat.le_refl _)] at hac
  unfold repL
  by_cases hWp : W = p
  · rw [if_pos hWp]
    refine ⟨Nat.le_trans (keepL_len _) (by omega), fun q hq => ?_⟩
    unfold keepL at hq
    split at hq
    · rw [List.mem_singleton] at hq
      subst hq
      exact ⟨by show (s.size : Int) ≤ ((300300 : Nat) : Int); omega, by show (0 : Nat) ≤ _; omega, by show (0 : Nat) ≤ _; omega⟩
    · cases hq
  · rw [if_neg hWp] at hac ⊢
    unfold rawG
    rw [List.foldl_append]
    have := bd_more ⟨by omega, hac.2⟩ (pk_keep (n := s.size - (gA s (sps p s W)).2) (by omega))
    exact ⟨Nat.le_trans this.1 (by omega), this.2⟩
/-- It may be told. -/
def rpOk (p s W : ByteArray) : Bool := said p s && good W.data.toList
def rpB (p s W : ByteArray) : Bool := rpOk p s W && goodO (repL p s W)
def rpT (p s W : ByteArray) : List Pt := if rpB p s W then repL p s W else []
def RoPost (p s W : ByteArray) (w : World) (e : Ending) (w' : World) : Prop := ∃ v, e = .returned (.tuple #[v, .bool (rpB p s W)]) ∧ POwn w' w.heap.size v (rpT p s W) ∧ Below w.heap.size w w'
theorem ro_yes {p s W : ByteArray} {w w' : World} {v : Value} (h : rpB p s W = true) (ho : POwn w' w.heap.size v (repL p s W)) (hb : Below w.heap.size w w') : RoPost p s W w (.returned (.tuple #[v, .bool true])) w' :=
  ⟨v, by rw [h], by unfold rpT; rw [if_pos h]; exact ho, hb⟩
theorem ro_no {p s W : ByteArray} {w w' : World} (h : rpB p s W = false) (hb : Below w.heap.size w w') : RoPost p s W w (.returned (.tuple #[.slice none 0 0, .bool false])) w' :=
  ⟨_, by rw [h], by unfold rpT; rw [h, if_neg (by simp)]; exact World.ownsRow_nil _ _ _ _, hb⟩
theorem rpT_len (p s W : ByteArray) : (rpT p s W).length ≤ 60 := by
  unfold rpT rpB
  split
  · rename_i h; rw [Bool.and_eq_true] at h; exact (goodO_le h.2).1
  · simp

set_option maxRecDepth 100000 in
set_option maxHeartbeats 4000000 in
theorem repS_any (p s W : ByteArray) (w : World) (hp : p.size ≤ 1048576) (hs : s.size ≤ 1048576) (hW : W.size ≤ 1048576) :
    Calls Tryd.prog 23 #[.string s, .string p, .string W] w (RoPost p s W w) := by
  have H := l11Said_any p s w hp hs
  have HG := goodTextS_any W w hW
  by_cases h1 : said p s = true
  · rw [h1] at H
    replace H := hide H
    by_cases h2 : good W.data.toList = true
    · rw [h2] at HG
      replace HG := hide HG
      obtain ⟨-, h0, -, h3, h4, h5⟩ := said_yes h1
      have HR := hide (l11Replace_any p s W w h0 h4 h5 h2)
      have hbd := repL_bd (W := W) h0 h4 h3 h2
      have HGO := hide (fun (w' : World) v (h : POwn w' w.heap.size v (repL p s W)) => goodOpS_own h (fun i hi => by have := hbd.2 _ (List.getElem_mem hi); exact ⟨by have := this.2.1; omega, by have := this.2.2; omega⟩) (by omega))
      have hB : rpB p s W = goodO (repL p s W) := by unfold rpB rpOk; rw [h1, h2]; rfl
      cases hg : goodO (repL p s W) with
      | true =>
        rw [hg] at hB HGO
        have HY := hide (fun v w' ho hb => ro_yes (w := w) (v := v) (w' := w') hB ho hb)
        clear h1 h2 h4 h5 hbd hB hg
        go_enter Tryd.func23, Tryd.ntmps23
        go_wp2_with fail
        refine H.out.mono ?_
        rintro e w' ⟨rfl, hw⟩
        replace hw := hw.symm
        subst hw
        go_wp2_with fail
        refine HG.out.mono ?_
        rintro e w' ⟨rfl, hw⟩
        replace hw := hw.symm
        subst hw
        go_wp2_with fail
        refine HR.out.mono ?_
        rintro e w1 ⟨v, rfl, ho, hb1⟩
        have O1 := hide ho
        clear ho
        go_wp2_with fail
        refine (HGO.out w1 v O1.out).mono ?_
        rintro e w2 ⟨rfl, hb2⟩
        have HY1 := hide (HY.out v w2 (own_below O1.out hb2) (hb1.trans (hb2.mono hb1.size)))
        clear O1 hb1 hb2
        go_wp2
        go_ret2
        exact HY1.out
      | false =>
        rw [hg] at hB HGO
        have HY := hide (fun w' hb => ro_no (w := w) (w' := w') hB hb)
        clear h1 h2 h4 h5 hbd hB hg
        go_enter Tryd.func23, Tryd.ntmps23
        go_wp2_with fail
        refine H.out.mono ?_
        rintro e w' ⟨rfl, hw⟩
        replace hw := hw.symm
        subst hw
        go_wp2_with fail
        refine HG.out.mono ?_
        rintro e w' ⟨rfl, hw⟩
        replace hw := hw.symm
        subst hw
        go_wp2_with fail
        refine HR.out.mono ?_
        rintro e w1 ⟨v, rfl, ho, hb1⟩
        have O1 := hide ho
        clear ho
        go_wp2_with fail
        refine (HGO.out w1 v O1.out).mono ?_
        rintro e w2 ⟨rfl, hb2⟩
        have HY1 := hide (HY.out w2 (hb1.trans (hb2.mono hb1.size)))
        clear O1 hb1 hb2
        go_wp2
        go_ret2
        exact HY1.out
    · rw [Bool.not_eq_true] at h2
      have HY := hide (ro_no (p := p) (s := s) (W := W) (w := w) (by unfold rpB rpOk; rw [h2, Bool.and_false]; rfl) (Below.refl _ _))
      rw [h2] at HG
      replace HG := hide HG
      clear h1 h2
      go_enter Tryd.func23, Tryd.ntmps23
      go_wp2_with fail
      refine H.out.mono ?_
      rintro e w' ⟨rfl, hw⟩
      replace hw := hw.symm
      subst hw
      go_wp2_with fail
      refine HG.out.mono ?_
      rintro e w' ⟨rfl, hw⟩
      replace hw := hw.symm
      subst hw
      go_wp2
      go_ret2
      exact HY.out
  · rw [Bool.not_eq_true] at h1
    have HY := hide (ro_no (p := p) (s := s) (W := W) (w := w) (by unfold rpB rpOk; rw [h1]; rfl) (Below.refl _ _))
    rw [h1] at H
    replace H := hide H
    clear h1 HG
    go_enter Tryd.func23, Tryd.ntmps23
    go_wp2_with fail
    refine H.out.mono ?_
    rintro e w' ⟨rfl, hw⟩
    replace hw := hw.symm
    subst hw
    go_wp2
    go_ret2
    exact HY.out
end Go.Proofs.YtfiefklhhchebaaDoor

set_option linter.unusedVariables false
namespace Go.Proofs.YtfiefklhhchebaaDoor
open Go.RowKit
open Doc1

def spC (y : Spl) : List Value := [.int .i64 (y.frm : Int), .int .i64 (y.til : Int), .string y.put]
def encS (l : List Spl) : List Value := l.flatMap spC
theorem encS_len (l : List Spl) : (encS l).length = l.length * 3 := by
  induction l with
  | nil => rfl
  | cons x l ih => simp [encS, spC] at ih ⊢; omega
theorem encS_app (a b : List Spl) : encS (a ++ b) = encS a ++ encS b := by simp [encS]
theorem encS_at (l : List Spl) : ∀ i (h : i < l.length), (encS l)[i * 3]? = some (.int .i64 (l[i].frm : Int)) ∧ (encS l)[i * 3 + 1]? = some (.int .i64 (l[i].til : Int)) ∧ (encS l)[i * 3 + 2]? = some (.string l[i].put) := by
  induction l with
  | nil => intro i h; simp at h
  | cons x l ih =>
    intro i h
    have e : encS (x :: l) = spC x ++ encS l := by simp [encS]
    rw [e]
    cases i with
    | zero => exact ⟨rfl, rfl, rfl⟩
    | succ i =>
      have := ih i (by simpa using h)
      have hl : (spC x).length = 3 := rfl
      rw [List.getElem?_append_right (by rw [hl]; omega), List.getElem?_append_right (by rw [hl]; omega), List.getElem?_append_right (by rw [hl]; omega), hl,
        show (i + 1) * 3 - 3 = i * 3 by omega, show (i + 1) * 3 + 1 - 3 = i * 3 + 1 by omega, show (i + 1) * 3 + 2 - 3 = i * 3 + 2 by omega]
      simpa using this
def SpOwn (w : World) (B : Nat) (v : Value) (l : List Spl) : Prop := w.ownsRow B 66 3 v l.length (encS l)
theorem Tryd.infoSpl : (Tryd.prog.info? 66).map (fun i => (i.zero, i.size, i.bytes)) = some (some (.agg #[.int .i64 0, .int .i64 0, .string ⟨#[]⟩]), 3, 32) := by kernel_rfl
/-- A row of splices that is read. -/
theorem spl_at {w : World} {B : Nat} {v : Value} {l : List Spl} (h : SpOwn w B v l) : ∃ a cap, v = .slice a l.length cap ∧ l.length ≤ cap ∧ cap ≤ maxLen ∧ ∀ wy, Below w.heap.size w wy → ∀ j (hj : j < l.length), ∃ g, a = some ⟨g, 0, none⟩ ∧ wy.cell? ⟨g, j * 3, none⟩ = some (.int .i64 (l[j].frm : Int)) ∧ wy.cell? ⟨g, j * 3 + 1, none⟩ = some (.int .i64 (l[j].til : Int)) ∧ wy.cell? ⟨g, j * 3 + 2, none⟩ = some (.string l[j].put) := by
  unfold SpOwn at h
  obtain ⟨a, cap, rfl, k1, k2⟩ := own_shp h
  refine ⟨a, cap, rfl, k1, k2, fun wy hb j hj => ?_⟩
  obtain ⟨g, cc, e, -⟩ := own_open h (by omega)
  simp only [Value.slice.injEq] at e
  obtain ⟨e1, -, -⟩ := e
  subst e1
  have h2 := own_below h hb
  have c0 := World.ownsRow.cellAt h2 (j * 3) (by omega)
  have c1 := World.ownsRow.cellAt h2 (j * 3 + 1) (by omega)
  have c2 := World.ownsRow.cellAt h2 (j * 3 + 2) (by omega)
  have q := encS_at l j hj
  rw [q.1] at c0
  rw [q.2.1] at c1
  rw [q.2.2] at c2
  exact ⟨g, rfl, c0, c1, c2⟩
theorem SpOwn.app {w : World} {B : Nat} {v : Value} {l : List Spl} {y : Spl} (h : w.ownsRow B 66 3 v (l.length + 1) (encS l ++ spC y)) : SpOwn w B v (l ++ [y]) := by
  unfold SpOwn
  rw [encS_app, List.length_append, show encS [y] = spC y by simp [encS]]
  exact h

def RpPost (p s W : ByteArray) (w : World) (e : Ending) (w' : World) : Prop := ∃ v, e = .returned (.tuple #[v, .bool (rpOk p s W)]) ∧ SpOwn w' w.heap.size v (if rpOk p s W then sps p s W else []) ∧ Below w.heap.size w w'

set_option maxRecDepth 100000 in
set_option maxHeartbeats 4000000 in
theorem replacements_any (p s W : ByteArray) (w : World) (hp : p.size ≤ 1048576) (hs : s.size ≤ 1048576) (hW : W.size ≤ 1048576) (hT : Tab w) :
    Calls Tryd.prog 41 #[.string s, .string p, .string W] w (RpPost p s W w) := by
  have H1 := isSought_any p w hp hT
  have H2 := goodTextI_any s w hs hT
  have H3 := goodTextI_any W w hW hT
  obtain ⟨i0, hi0, hz0, hz1, hz2⟩ := info_parts Tryd.infoSpl
  have hNo : rpOk p s W = false → Hid (RpPost p s W w (.returned (.tuple #[.slice none 0 0, .bool false])) w) := fun h => hide ⟨_, by rw [h], by rw [h]; exact World.ownsRow_nil _ _ _ _, Below.refl _ _⟩
  by_cases h1 : sgt p = true
  · rw [h1] at H1
    replace H1 := hide H1
    by_cases h2 : good s.data.toList = true
    · rw [h2] at H2
      replace H2 := hide H2
      by_cases h3 : good W.data.toList = true
      · rw [h3] at H3
        replace H3 := hide H3
        have hok : rpOk p s W = true := by unfold rpOk said; rw [h1, h2, h3]; rfl
        have hsd : said p s = true := by unfold said; rw [h1, h2]; rfl
        obtain ⟨-, h0, hp3, hs3, -, -⟩ := said_yes hsd
        obtain ⟨W0, cap, W2, cap2, hc1, hc2, hb1, hb2, hcap, hcap2, hbw⟩ := two_conv p s w
        have HL := hide (lookThrough_any p s w.heap.size (w.heap.size + 1) cap cap2 W2 hb1 hb2 h0 hp3 hs3 hcap hcap2)
        have hfe := fnd_end (p := p) (s := s) h0
        have hfl := fnd_len p.data.toList s.data.toList s.size
        have HFin : Hid (∀ v w', SpOwn w' w.heap.size v (sps p s W) → Below w.heap.size w w' → RpPost p s W w (.returned (.tuple #[v, .bool true])) w') := hide (fun v w' a b => ⟨v, by rw [hok], by rw [hok]; exact a, b⟩)
        have HBW := hide hbw
        clear h1 h2 h3 hok hsd hb1 hb2 hNo hbw
        go_enter Tryd.func41, Tryd.ntmps41
        go_wp2_with fail
        refine H1.out.mono ?_
        rintro e w' ⟨rfl, hw⟩
        replace hw := hw.symm
        subst hw
        go_wp2_with fail
        refine H2.out.mono ?_
        rintro e w' ⟨rfl, hw⟩
        replace hw := hw.symm
        subst hw
        go_wp2_with fail
        refine H3.out.mono ?_
        rintro e w' ⟨rfl, hw⟩
        replace hw := hw.symm
        subst hw
        go_wp2_with fail
        refine HL.out.mono ?_
        rintro e W1 ⟨v, rfl, ho, hb1⟩
        unfold fI at ho
        obtain ⟨F, hF⟩ : ∃ F, fnd p.data.toList s.data.toList s.size = F := ⟨_, rfl⟩
        have HFs : Hid (sps p s W = (apA p.size F).1.map (spl p.size W)) := hide (by unfold sps plc; rw [hF])
        rw [hF] at ho hfe hfl
        obtain ⟨a, ca, rfl, k1, k2, hc⟩ := places_at (F := F) ho
        have HC := hide hc
        have HFE := hide hfe
        have HB1 := hide (HBW.out.trans (hb1.mono HBW.out.size))
        clear ho hb1 hF hfe hc HL HBW hc1 hc2
        go_wp2
        go_loopw [10, 11, 37] (fun v ve vi wr => ∃ (k E : Nat), k ≤ F.length ∧ vi = .int .i64 (k : Int) ∧ ve = .int .i64 (E : Int) ∧ E ≤ 600 ∧ Hid (E = (apA p.size (F.take k)).2) ∧ ∃ v0, v0 = v ∧ Hid (SpOwn wr W1.heap.size v0 ((apA p.size (F.take k)).1.map (spl p.size W)) ∧ Below W1.heap.size W1 wr)) (fun _ _ vi _ => F.length - (intOf vi).toNat)
        case atStart => exact ⟨0, 0, by omega, rfl, rfl, by omega, hide rfl, _, rfl, hide ⟨World.ownsRow_nil _ _ _ _, Below.refl _ _⟩⟩
        case round =>
          obtain ⟨k, E, hk, rfl, rfl, hE6, HE, v, hv0, HR⟩ := hrel
          subst hv0
          by_cases hlt : k < F.length
          · obtain ⟨g, rfl, c1⟩ := HC.out wr HR.out.2 k hlt
            have hx := HFE.out F[k] (List.getElem_mem hlt)
            have HT := hide (apA_take (n := p.size) hlt)
            obtain ⟨x, hxd⟩ : ∃ x, F[k] = x := ⟨_, rfl⟩
            rw [hxd] at c1 hx HT
            clear hxd
            by_cases hle : E ≤ x
            · have HS : Hid (apA p.size (F.take (k + 1)) = ((apA p.size (F.take k)).1 ++ [x], x + p.size)) := hide (by rw [HT.out]; unfold apS; rw [if_pos (by rw [← HE.out]; exact hle)])
              have hal := apA_len p.size (F.take k)
              rw [List.length_take] at hal
              have hnl : ((apA p.size (F.take k)).1.map (spl p.size W)).length ≤ 300 := by rw [List.length_map]; omega
              clear HT
              go_wp2_with (at_builtin; (refine wpList_append_own _ rfl _ _ 62 rfl W1.heap.size 66 i0 (.agg #[.int .i64 0, .int .i64 0, .string ⟨#[]⟩]) 3 32 Tryd.underlying62 hi0 hz0 hz1 hz2 rfl (by decide) _ _ _ rfl (World.ownsRow.alloc HR.out.1 _) ⟨wr.heap.size, 0, none⟩ 1 1 [.int .i64 (x : Int), .int .i64 ((x : Int) + (p.size : Int)), .string W] rfl rfl (cell3_at _ _ rfl _ _ _ _) (by intro u hu; simp at hu; rcases hu with rfl | rfl | rfl <;> rfl) (by unfold maxLen; omega) (by omega) (by have := HR.out.2.size; simp; omega) ?_); intro v' w3 own3 grow3 _; (have HR3 : Hid (SpOwn w3 W1.heap.size v' ((apA p.size (F.take (k + 1))).1.map (spl p.size W)) ∧ Below W1.heap.size W1 w3) := hide ⟨(by rw [HS.out, List.map_append]; exact SpOwn.app own3), below_append HR.out.2 HR.out.1 HR.out.2.size grow3⟩); clear own3 grow3 HR)
              exact ⟨⟨k + 1, x + p.size, by omega, by go_num, by go_num, by omega, hide (by rw [HS.out]), _, rfl, HR3⟩, by simp [intOf]; omega⟩
            · have HS : Hid (apA p.size (F.take (k + 1)) = apA p.size (F.take k)) := hide (by rw [HT.out]; unfold apS; rw [if_neg (by rw [← HE.out]; exact hle)])
              clear HT
              go_wp2
              exact ⟨⟨k + 1, E, by omega, by go_num, rfl, hE6, hide (by rw [HS.out]; exact HE.out), _, rfl, hide (by rw [HS.out]; exact HR.out)⟩, by simp [intOf]; omega⟩
          · have HO := hide (HFin.out v wr (by
              have := HR.out.1
              rw [List.take_of_length_le (by omega)] at this
              rw [HFs.out]
              exact own_mono this HB1.out.size) (HB1.out.trans (HR.out.2.mono HB1.out.size)))
            clear HR
            go_wp2
            go_ret2
            exact HO.out
      · rw [Bool.not_eq_true] at h3
        have HN := hNo (by unfold rpOk; rw [h3, Bool.and_false])
        rw [h3] at H3
        replace H3 := hide H3
        clear h1 h2 h3 hNo
        go_enter Tryd.func41, Tryd.ntmps41
        go_wp2_with fail
        refine H1.out.mono ?_
        rintro e w' ⟨rfl, hw⟩
        replace hw := hw.symm
        subst hw
        go_wp2_with fail
        refine H2.out.mono ?_
        rintro e w' ⟨rfl, hw⟩
        replace hw := hw.symm
        subst hw
        go_wp2_with fail
        refine H3.out.mono ?_
        rintro e w' ⟨rfl, hw⟩
        replace hw := hw.symm
        subst hw
        go_wp2
        go_ret2
        exact HN.out
    · rw [Bool.not_eq_true] at h2
      have HN := hNo (by unfold rpOk said; rw [h2, Bool.and_false]; rfl)
      rw [h2] at H2
      replace H2 := hide H2
      clear h1 h2 hNo H3
      go_enter Tryd.func41, Tryd.ntmps41
      go_wp2_with fail
      refine H1.out.mono ?_
      rintro e w' ⟨rfl, hw⟩
      replace hw := hw.symm
      subst hw
      go_wp2_with fail
      refine H2.out.mono ?_
      rintro e w' ⟨rfl, hw⟩
      replace hw := hw.symm
      subst hw
      go_wp2
      go_ret2
      exact HN.out
  · rw [Bool.not_eq_true] at h1
    have HN := hNo (by unfold rpOk said; rw [h1]; rfl)
    rw [h1] at H1
    replace H1 := hide H1
    clear h1 hNo H2 H3
    go_enter Tryd.func41, Tryd.ntmps41
    go_wp2_with fail
    refine H1.out.mono ?_
    rintro e w' ⟨rfl, hw⟩
    replace hw := hw.symm
    subst hw
    go_wp2
    go_ret2
    exact HN.out
end Go.Proofs.YtfiefklhhchebaaDoor

set_option linter.unusedVariables false
namespace Go.Proofs.YtfiefklhhchebaaDoor
open Go.RowKit
open Doc1

theorem encS_set {o : List Spl} {y y' : Spl} {f : Nat} {u : Value} (hf : f < 3) (h : (spC y).set f u = spC y') : (encS (o ++ [y])).set (o.length * 3 + f) u = encS (o ++ [y']) := by
  rw [encS_app, encS_app, show encS [y] = spC y by simp [encS], show encS [y'] = spC y' by simp [encS], ← h, List.set_append_right _ _ (by rw [encS_len]; omega), encS_len, Nat.add_sub_cancel_left]
theorem SpOwn.set {w : World} {B g n cap : Nat} {o : List Spl} {y y' : Spl} (h : SpOwn w B (.slice (some ⟨g, 0, none⟩) n cap) (o ++ [y])) (hn : n = (o ++ [y]).length) {f : Nat} {u : Value} (hf : f < 3) (hx : (spC y).set f u = spC y') : SpOwn (w.setCell ⟨g, o.length * 3 + f, none⟩ u) B (.slice (some ⟨g, 0, none⟩) n cap) (o ++ [y']) := by
  subst hn
  have := (World.ownsRow.stored h (o.length * 3 + f) u).1
  rw [encS_set hf hx] at this
  unfold SpOwn
  rw [show (o ++ [y']).length = (o ++ [y]).length by simp]
  exact this
theorem jnt_take {ys : List Spl} {k : Nat} (h : k < ys.length) : jnt (ys.take (k + 1)) = jst (jnt (ys.take k)) ys[k] := by rw [List.take_succ_eq_append_getElem h, jnt_snoc]
theorem jst_len (out : List Spl) (x : Spl) : (jst out x).length ≤ out.length + 1 := by
  rcases List.eq_nil_or_concat out with rfl | ⟨o, y, rfl⟩
  · simp [jst_nil]
  · rw [List.concat_eq_append]
    by_cases hf : y.til < x.frm
    · rw [jst_far _ _ _ hf]; simp
    · rw [jst_near _ _ _ hf]; simp
theorem jnt_len (ys : List Spl) : (jnt ys).length ≤ ys.length := by
  have key : ∀ (l out : List Spl), (l.foldl jst out).length ≤ out.length + l.length := by
    intro l
    induction l with
    | nil => intro out; simp
    | cons x l ih => intro out; have := ih (jst out x); have := jst_len out x; simp only [List.foldl_cons, List.length_cons]; omega
  have := key ys []
  rw [List.length_nil, Nat.zero_add] at this
  exact this
/-- How long what is put may grow. -/
def PutB (M : Nat) (l : List Spl) : Prop := ∀ y ∈ l, y.put.size ≤ M ∧ y.frm ≤ 300 ∧ y.til ≤ 300
theorem jst_putB {M N : Nat} {out : List Spl} {x : Spl} (h : PutB M out) (hx : x.put.size ≤ N ∧ x.frm ≤ 300 ∧ x.til ≤ 300) : PutB (M + N) (jst out x) := by
  rcases List.eq_nil_or_concat out with rfl | ⟨o, y, rfl⟩
  · rw [jst_nil]; intro z hz; rw [List.mem_singleton] at hz; subst hz; exact ⟨by omega, hx.2⟩
  · rw [List.concat_eq_append] at h ⊢
    have hy := h y (by simp)
    by_cases hf : y.til < x.frm
    · rw [jst_far _ _ _ hf]
      intro z hz
      rcases List.mem_append.1 hz with c | c
      · have := h z c; exact ⟨by omega, this.2⟩
      · rw [List.mem_singleton] at c; subst c; exact ⟨by omega, hx.2⟩
    · rw [jst_near _ _ _ hf]
      intro z hz
      rcases List.mem_append.1 hz with c | c
      · have := h z (List.mem_append_left _ c); exact ⟨by omega, this.2⟩
      · rw [List.mem_singleton] at c; subst c
        exact ⟨by show (y.put ++ x.put).size ≤ _; rw [ByteArray.size_append]; omega, hy.2.1, hx.2.2⟩
theorem jnt_putB {N : Nat} {ys : List Spl} (h : PutB N ys) : ∀ k, k ≤ ys.length → PutB (N * k) (jnt (ys.take k))
  | 0, _ => by intro y hy; simp [jnt] at hy
  | k + 1, hk => by
    rw [jnt_take (by omega), Nat.mul_succ]
    exact jst_putB (jnt_putB h k (by omega)) (h _ (List.getElem_mem (by omega)))

set_option maxRecDepth 100000 in
set_option maxHeartbeats 8000000 in
theorem joinTouching_any {w : World} {B : Nat} {v : Value} {ys : List Spl} (h : SpOwn w B v ys) (hl : ys.length ≤ 300) (hb : PutB 300 ys) :
    Calls Tryd.prog 46 #[v] w fun e w' => ∃ v', e = .returned v' ∧ SpOwn w' w.heap.size v' (jnt ys) ∧ Below w.heap.size w w' := by
  obtain ⟨i0, hi0, hz0, hz1, hz2⟩ := info_parts Tryd.infoSpl
  obtain ⟨a, cap, rfl, k1, k2, hc⟩ := spl_at h
  have HC := hide hc
  have HPB := hide (jnt_putB hb)
  have HYB := hide hb
  clear h hc hb
  go_enter Tryd.func46, Tryd.ntmps46
  go_wp2
  go_loopw [3, 9] (fun v vi wr => ∃ (k : Nat), k ≤ ys.length ∧ vi = .int .i64 (k : Int) ∧ ∃ v0, v0 = v ∧ Hid (SpOwn wr w.heap.size v0 (jnt (ys.take k)) ∧ Below w.heap.size w wr)) (fun _ vi _ => ys.length - (intOf vi).toNat)
  case atStart => exact ⟨0, by omega, rfl, _, rfl, hide ⟨World.ownsRow_nil _ _ _ _, Below.refl _ _⟩⟩
  case round =>
    obtain ⟨k, hk, rfl, v, hv0, HR⟩ := hrel
    subst hv0
    by_cases hlt : k < ys.length
    · obtain ⟨g, rfl, c0, c1, c2⟩ := HC.out wr HR.out.2 k hlt
      have hJl := jnt_len (ys.take k)
      rw [List.length_take] at hJl
      have hPB := HPB.out k hk
      have HT := hide (jnt_take hlt)
      have hxb := HYB.out _ (List.getElem_mem hlt)
      obtain ⟨x, hx⟩ : ∃ x, ys[k] = x := ⟨_, rfl⟩
      rw [hx] at c0 c1 c2 HT hxb
      clear hx
      obtain ⟨xf, xt, xp⟩ := x
      simp only at c0 c1 c2 hxb
      obtain ⟨y0, y1, y2⟩ := cells3_new' wr (.int .i64 (xf : Int)) (.int .i64 (xt : Int)) (.string xp)
      replace y0 := y0 66
      replace y1 := y1 66
      replace y2 := y2 66
      have hba : Below w.heap.size w (wr.alloc (.cells #[.int .i64 (xf : Int), .int .i64 (xt : Int), .string xp] 66)) := HR.out.2.alloc HR.out.2.size _
      have hoa := World.ownsRow.alloc HR.out.1 (.cells #[.int .i64 (xf : Int), .int .i64 (xt : Int), .string xp] 66)
      have hsz := HR.out.2.size
      obtain ⟨J, hJ⟩ : ∃ J, jnt (ys.take k) = J := ⟨_, rfl⟩
      rw [hJ] at hJl hPB HT hoa
      obtain ⟨wb, hwb⟩ : ∃ wb, wr.alloc (.cells #[.int .i64 (xf : Int), .int .i64 (xt : Int), .string xp] 66) = wb := ⟨_, rfl⟩
      rw [hwb] at y0 y1 y2 hba hoa
      have hwbs : wb.heap.size = wr.heap.size + 1 := by rw [← hwb]; simp
      have HBA := hide hba
      have HOA := hide hoa
      replace hwb := hide hwb
      have HR0 := HR
      rw [hJ] at HR0
      clear HR hba hJ
      rcases List.eq_nil_or_concat J with hJ0 | ⟨o, y, hJ1⟩
      · subst hJ0
        have hoa2 := HOA.out
        obtain ⟨a2, cap2, rfl, -, -⟩ := own_shp hoa2
        have HT2 : Hid (jnt (ys.take (k + 1)) = [] ++ [⟨xf, xt, xp⟩]) := hide (by rw [HT.out]; rfl)
        clear hoa hoa2
        go_wp2
        rw [hwb.out]
        go_quiet (fail)
        have z0 : (wb.drewN nq).cell? ⟨wr.heap.size, 0, none⟩ = some (.int .i64 (xf : Int)) := y0
        have z1 : (wb.drewN nq).cell? ⟨wr.heap.size, 1, none⟩ = some (.int .i64 (xt : Int)) := y1
        have z2 : (wb.drewN nq).cell? ⟨wr.heap.size, 2, none⟩ = some (.string xp) := y2
        have HQ : Hid (SpOwn (wb.drewN nq) w.heap.size (.slice a2 ([] : List Spl).length cap2) [] ∧ Below w.heap.size w (wb.drewN nq)) := hide ⟨own_below HOA.out (below_dN (Below.refl _ _) nq), below_dN HBA.out nq⟩
        generalize wb.drewN nq = wq at *
        clear y0 y1 y2 HOA HBA
        go_wp2_with (at_builtin; (refine wpList_append_own _ rfl _ _ 62 rfl w.heap.size 66 i0 (.agg #[.int .i64 0, .int .i64 0, .string ⟨#[]⟩]) 3 32 Tryd.underlying62 hi0 hz0 hz1 hz2 rfl (by decide) _ _ _ rfl (World.ownsRow.alloc HQ.out.1 _) ⟨wq.heap.size, 0, none⟩ 1 1 [.int .i64 (xf : Int), .int .i64 (xt : Int), .string xp] rfl rfl (cell3_at _ _ rfl _ _ _ _) (by intro u hu; simp at hu; rcases hu with rfl | rfl | rfl <;> rfl) (by unfold maxLen; simp <;> omega) (by simp <;> omega) (by have := HQ.out.2.size; simp; omega) ?_); intro v' w3 own3 grow3 _; (have HR3 : Hid (SpOwn w3 w.heap.size v' (jnt (ys.take (k + 1))) ∧ Below w.heap.size w w3) := hide ⟨(by rw [HT2.out]; exact SpOwn.app own3), below_append HQ.out.2 HQ.out.1 HQ.out.2.size grow3⟩); clear own3 grow3 HQ)
        exact ⟨⟨k + 1, by omega, by go_num, _, rfl, HR3⟩, by simp [intOf]; omega⟩
      · rw [List.concat_eq_append] at hJ1
        subst hJ1
        have hol : (o ++ [y]).length = o.length + 1 := by simp
        have hoa2 : wb.ownsRow w.heap.size 66 3 v (o.length + 1) (encS (o ++ [y])) := by rw [← hol]; exact HOA.out
        obtain ⟨g2, cap2, rfl, m1, m2, m3, m4, -⟩ := own_open hoa2 (by omega)
        have hyb := hPB y (by simp)
        have hq := encS_at (o ++ [y]) o.length (by simp)
        rw [List.getElem_append_right (Nat.le_refl _)] at hq
        simp only [Nat.sub_self, List.getElem_singleton] at hq
        have d1 := World.ownsRow.cellAt hoa2 (o.length * 3 + 1) (by omega)
        have d2 := World.ownsRow.cellAt hoa2 (o.length * 3 + 2) (by omega)
        rw [hq.2.1] at d1
        rw [hq.2.2] at d2
        have f1 := World.ownsRow.frozenAt hoa2 (o.length * 3 + 1)
        have f2 := World.ownsRow.frozenAt hoa2 (o.length * 3 + 2)
        have ho3 : o.length + 1 ≤ 300 := by omega
        have hg2 : g2 < wr.heap.size := by
          have := (World.ownsRow.lt HR0.out.1 g2 rfl).2
          exact this
        have ew : IntKind.i64.wrap ((o.length : Int) + 1 - 1) = (o.length : Int) := by rw [IntKind.wrap_i64]; omega
        have hdo : decide ((o.length : Int) < 0) = false := decide_eq_false (by omega)
        have hlo : o.length < o.length + 1 := by omega
        obtain ⟨yf, yt, yp⟩ := y
        simp only at d1 d2 hyb
        clear hq hoa
        by_cases hf : yt < xf
        · have HT2 : Hid (jnt (ys.take (k + 1)) = o ++ [⟨yf, yt, yp⟩] ++ [⟨xf, xt, xp⟩]) := hide (by rw [HT.out, jst_far _ _ _ hf])
          have hd : decide ((yt : Int) < (xf : Int)) = true := decide_eq_true (by omega)
          go_wp2
          rw [hwb.out]
          go_quiet (fail)
          have z0 : (wb.drewN nq).cell? ⟨wr.heap.size, 0, none⟩ = some (.int .i64 (xf : Int)) := y0
          have z1 : (wb.drewN nq).cell? ⟨wr.heap.size, 1, none⟩ = some (.int .i64 (xt : Int)) := y1
          have z2 : (wb.drewN nq).cell? ⟨wr.heap.size, 2, none⟩ = some (.string xp) := y2
          have HQ : Hid ((wb.drewN nq).ownsRow w.heap.size 66 3 (.slice (some ⟨g2, 0, none⟩) (o.length + 1) cap2) (o.length + 1) (encS (o ++ [⟨yf, yt, yp⟩])) ∧ Below w.heap.size w (wb.drewN nq)) := hide ⟨own_below hoa2 (below_dN (Below.refl _ _) nq), below_dN HBA.out nq⟩
          generalize wb.drewN nq = wq at *
          clear y0 y1 y2 HOA HBA hoa2 d1 d2 f1 f2
          go_wp2_with (at_builtin; (refine wpList_append_own _ rfl _ _ 62 rfl w.heap.size 66 i0 (.agg #[.int .i64 0, .int .i64 0, .string ⟨#[]⟩]) 3 32 Tryd.underlying62 hi0 hz0 hz1 hz2 rfl (by decide) _ _ _ rfl (World.ownsRow.alloc HQ.out.1 _) ⟨wq.heap.size, 0, none⟩ 1 1 [.int .i64 (xf : Int), .int .i64 (xt : Int), .string xp] rfl rfl (cell3_at _ _ rfl _ _ _ _) (by intro u hu; simp at hu; rcases hu with rfl | rfl | rfl <;> rfl) (by unfold maxLen; omega) (by omega) (by have := HQ.out.2.size; simp; omega) ?_); intro v' w3 own3 grow3 _; (have HR3 : Hid (SpOwn w3 w.heap.size v' (jnt (ys.take (k + 1))) ∧ Below w.heap.size w w3) := hide ⟨(by rw [HT2.out]; refine SpOwn.app ?_; rw [hol]; exact own3), below_append HQ.out.2 HQ.out.1 HQ.out.2.size grow3⟩); clear own3 grow3 HQ)
          exact ⟨⟨k + 1, by omega, by go_num, _, rfl, HR3⟩, by simp [intOf]; omega⟩
        · have HT2 : Hid (jnt (ys.take (k + 1)) = o ++ [⟨yf, xt, yp ++ xp⟩]) := hide (by rw [HT.out, jst_near _ _ _ hf])
          have hd : decide ((yt : Int) < (xf : Int)) = false := decide_eq_false (by omega)
          have hne1 : ¬ g2 = wr.heap.size := by omega
          have hne2 : ¬ wr.heap.size = g2 := by omega
          go_wp2
          rw [hwb.out]
          go_quiet (fail)
          have z1 : (wb.drewN nq).cell? ⟨wr.heap.size, 1, none⟩ = some (.int .i64 (xt : Int)) := y1
          have z2 : (wb.drewN nq).cell? ⟨wr.heap.size, 2, none⟩ = some (.string xp) := y2
          have e1 : (wb.drewN nq).cell? ⟨g2, o.length * 3 + 1, none⟩ = some (.int .i64 (yt : Int)) := d1
          have e2 : (wb.drewN nq).cell? ⟨g2, o.length * 3 + 2, none⟩ = some (.string yp) := d2
          have t1 : (wb.drewN nq).frozen? ⟨g2, o.length * 3 + 1, none⟩ = false := f1
          have t2 : (wb.drewN nq).frozen? ⟨g2, o.length * 3 + 2, none⟩ = false := f2
          have HQ : Hid (SpOwn (wb.drewN nq) w.heap.size (.slice (some ⟨g2, 0, none⟩) (o.length + 1) cap2) (o ++ [⟨yf, yt, yp⟩]) ∧ Below w.heap.size w (wb.drewN nq)) := hide ⟨by unfold SpOwn; rw [hol]; exact own_below hoa2 (below_dN (Below.refl _ _) nq), below_dN HBA.out nq⟩
          generalize wb.drewN nq = wq at *
          clear y0 y1 y2 HOA HBA hoa2 d1 d2 f1 f2
          go_wp2
          have HQ2 : Hid (SpOwn (wq.setCell ⟨g2, o.length * 3 + 1, none⟩ (.int .i64 (xt : Int))) w.heap.size (.slice (some ⟨g2, 0, none⟩) (o.length + 1) cap2) (o ++ [⟨yf, xt, yp⟩]) ∧ Below w.heap.size w (wq.setCell ⟨g2, o.length * 3 + 1, none⟩ (.int .i64 (xt : Int)))) := hide ⟨SpOwn.set HQ.out.1 hol.symm (f := 1) (by omega) rfl, HQ.out.2.setCell (p := ⟨g2, o.length * 3 + 1, none⟩) m3 _⟩
          have z2' : (wq.setCell ⟨g2, o.length * 3 + 1, none⟩ (.int .i64 (xt : Int))).cell? ⟨wr.heap.size, 2, none⟩ = some (.string xp) := by
            rw [World.cell?_setCell_other _ _ _ _ (by simp only [ne_eq, Addr.mk.injEq, not_and]; intro c; exact absurd c hne1)]; exact z2
          have e2' : (wq.setCell ⟨g2, o.length * 3 + 1, none⟩ (.int .i64 (xt : Int))).cell? ⟨g2, o.length * 3 + 2, none⟩ = some (.string yp) := by
            rw [World.cell?_setCell_other _ _ _ _ (by simp only [ne_eq, Addr.mk.injEq, true_and, and_true]; omega)]; exact e2
          have t2' : (wq.setCell ⟨g2, o.length * 3 + 1, none⟩ (.int .i64 (xt : Int))).frozen? ⟨g2, o.length * 3 + 2, none⟩ = false := by rw [World.frozen?_setCell]; exact t2
          generalize wq.setCell ⟨g2, o.length * 3 + 1, none⟩ (.int .i64 (xt : Int)) = ws at *
          have hadd : yp.size + xp.size ≤ 100000 := by omega
          clear z1 z2 e1 e2 t1 t2 HQ
          go_region
          go_wp2
          have HR3 : Hid (SpOwn (ws.setCell ⟨g2, o.length * 3 + 2, none⟩ (.string (yp ++ xp))).drew w.heap.size (.slice (some ⟨g2, 0, none⟩) (o.length + 1) cap2) (jnt (ys.take (k + 1))) ∧ Below w.heap.size w (ws.setCell ⟨g2, o.length * 3 + 2, none⟩ (.string (yp ++ xp))).drew) := hide ⟨by rw [HT2.out]; exact World.ownsRow.drew (SpOwn.set HQ2.out.1 (by simp) (f := 2) (by omega) rfl), (HQ2.out.2.setCell (p := ⟨g2, o.length * 3 + 2, none⟩) m3 _).drew⟩
          exact ⟨⟨k + 1, by omega, by go_num, _, rfl, HR3⟩, by simp [intOf]; omega⟩
    · have HO : Hid (SpOwn wr w.heap.size v (jnt ys) ∧ Below w.heap.size w wr) := hide ⟨by
        have := HR.out.1
        rw [List.take_of_length_le (by omega)] at this
        exact this, HR.out.2⟩
      clear HR
      go_wp2
      go_ret
      exact ⟨v, rfl, HO.out.1, HO.out.2⟩
end Go.Proofs.YtfiefklhhchebaaDoor

set_option linter.unusedVariables false
namespace Go.Proofs.YtfiefklhhchebaaDoor
open Go.RowKit
open Doc1

/-- A part that keeps, puts or drops, of no more than so much. -/
def kd (p : Pt) : Prop := 0 ≤ p.keep ∧ p.keep ≤ 300300 ∧ p.put.size ≤ 300300 ∧ p.drop.size ≤ 300300 ∧ (p.drop.data.toList ≠ [] → p.keep = 0)
theorem own_cellsP {w : World} {B : Nat} {v : Value} {l : List Pt} (h : POwn w B v l) : ∃ aw cap, v = .slice aw l.length cap ∧ l.length ≤ cap ∧ cap ≤ maxLen ∧ (0 < l.length → ∃ g, aw = some ⟨g, 0, none⟩ ∧ CLs w g (encP l) ∧ g < w.heap.size) := by
  obtain ⟨a, cap, rfl, k1, k2⟩ := own_shp h
  refine ⟨a, cap, rfl, k1, k2, fun h0 => ?_⟩
  obtain ⟨g, cc, e, -, -, -, h4, h5, -⟩ := POwn.shape h (by intro c; rw [c] at h0; simp at h0)
  simp only [Value.slice.injEq] at e
  exact ⟨g, e.1, h5, h4⟩

set_option maxRecDepth 100000 in
set_option maxHeartbeats 4000000 in
theorem l3Apply_big {w : World} {B : Nat} {v : Value} {l : List Pt} (s : ByteArray) (h : POwn w B v l) (h60 : l.length ≤ 1000) (hgp : ∀ p ∈ l, kd p) (hs : s.size ≤ 300) :
    Calls Tryd.prog 43 #[v, .string s] w fun e w' => e = .returned (.tuple #[.string (apO l s).1, .bool (apO l s).2]) ∧ Below w.heap.size w w' := by
  obtain ⟨aw, cap, rfl, hle, hcm, hcl⟩ := own_cellsP h
  have H := hide hcl
  have HG := hide hgp
  unfold maxLen at hcm
  clear h hgp hcl
  go_enter Tryd.func43, Tryd.ntmps43
  go_wp2
  go_loopw [1, 6, 12] (fun a b i wr => ∃ (k : Nat) (x y : ByteArray), k ≤ l.length ∧ i = .int .i64 k ∧ a = .string x ∧ b = .string y ∧ x.size ≤ 1048576 ∧ y.size ≤ 1048876 * k ∧ Hid (apL (l.take k) (s, ⟨#[]⟩) = some (x, y)) ∧ Below w.heap.size w wr) (fun _ _ i _ => l.length - (intOf i).toNat)
  case atStart => exact ⟨0, s, ⟨#[]⟩, by omega, rfl, rfl, rfl, by omega, by decide, hide rfl, Below.refl _ _⟩
  case round =>
    obtain ⟨k, x, y, hk, rfl, rfl, rfl, hx, hy, hap, hbel⟩ := hrel
    by_cases hlt : k < l.length
    · obtain ⟨g, rfl, hcls, hglt⟩ := H.out (by omega)
      obtain ⟨c0, c1, c2⟩ := (hcls.later hbel hglt).ptat k hlt
      have hpk := HG.out l[k] (List.getElem_mem hlt)
      have hbd := hpk
      obtain ⟨K, hK, hk0⟩ : ∃ K : Nat, K ≤ 300300 ∧ l[k].keep = (K : Int) := ⟨l[k].keep.toNat, by have := hpk.2.1; omega, by have := hpk.1; omega⟩
      have ha := hbel.alloc hbel.size (.cells #[.int .i64 l[k].keep, .string l[k].put, .string l[k].drop] 74)
      have hS := hide (fun h2 => ap_stop hlt hap.out h2)
      have hT := hide (ap_take hlt hap.out)
      have hd2 := hbd.2.2.2.1
      have hp2 := hbd.2.2.1
      have hpk0 := hide hpk
      clear hbd hpk hap
      have e1 := emp_b l[k].drop
      have e2 := sz_list l[k].drop
      by_cases hn : x.size < K + l[k].drop.size
      · have hno : apL l (s, ⟨#[]⟩) = none := hS.out (by unfold ap1; rw [hk0]; simp only [Int.toNat_natCast]; rw [if_pos hn])
        have hO : apO l s = (⟨#[]⟩, false) := by unfold apO; rw [hno]
        have HO := hide hO
        rw [hk0] at c0 ha
        clear hk0
        generalize l[k].drop = D at *
        generalize l[k].put = U at *
        clear hS hT hno hO e1 e2
        have hdk : decide ((x.size : Int) < (K : Int) + (D.size : Int)) = true := decide_eq_true (by omega)
        go_wp2
        go_region
        go_wp2
        go_ret2
        exact ⟨by rw [HO.out]; rfl, ha.drew⟩
      · by_cases hD : l[k].drop.data.toList = []
        · have hV : apL (l.take (k + 1)) (s, ⟨#[]⟩) = some (x.extract (K + l[k].drop.size) x.size, (if 0 < l[k].keep then y ++ x.extract 0 (K + l[k].drop.size) else y) ++ l[k].put) := by
            rw [hT.out]; unfold ap1; rw [hk0]; simp only [Int.toNat_natCast]; rw [if_neg hn, if_neg (fun c => c.1 hD)]
          have HV := hide hV
          rw [decide_eq_true hD] at e1
          rw [hk0] at c0 ha HV
          clear hk0 hV
          generalize l[k].drop = D at *
          generalize l[k].put = U at *
          clear hS hT
          have hD0 : D.size = 0 := by rw [e2, hD]; rfl
          have hdk : decide (x.size < K) = false := decide_eq_false (by omega)
          by_cases hK0 : 0 < K
          · rw [if_pos (by omega)] at HV
            go_wp2
            go_region
            go_wp2
            refine ⟨⟨k + 1, _, _, by omega, by go_num, rfl, rfl, ?_, ?_, ?_, ha.drew⟩, by simp [intOf]; omega⟩
            · rw [ByteArray.size_extract]; omega
            · rw [ByteArray.size_append, ByteArray.size_append, ByteArray.size_extract]; omega
            · rw [hD0] at HV; exact HV
          · rw [if_neg (by omega)] at HV
            go_wp2
            go_region
            go_wp2
            refine ⟨⟨k + 1, _, _, by omega, by go_num, rfl, rfl, ?_, ?_, ?_, ha.drew⟩, by simp [intOf]; omega⟩
            · rw [ByteArray.size_extract]; omega
            · rw [ByteArray.size_append]; omega
            · rw [hD0] at HV; exact HV
        · have hq : l[k].keep = 0 := hpk0.out.2.2.2.2 hD
          obtain rfl : K = 0 := by omega
          rw [Nat.zero_add] at hn
          rw [hq] at c0 ha
          by_cases hE : x.extract 0 l[k].drop.size = l[k].drop
          · have hV : apL (l.take (k + 1)) (s, ⟨#[]⟩) = some (x.extract l[k].drop.size x.size, y ++ l[k].put) := by
              rw [hT.out]; unfold ap1; rw [hq]; simp [hn, hE]
            have HV := hide hV
            have hE2 : decide (x.extract 0 l[k].drop.size = l[k].drop) = true := decide_eq_true hE
            have hD3 : l[k].drop.toList.isEmpty = false := by rw [e1]; exact decide_eq_false hD
            clear hk0 hV hq hS hT e1 e2 hpk0
            have hdk : decide (x.size < l[k].drop.size) = false := decide_eq_false hn
            generalize l[k].drop = D at *
            generalize l[k].put = U at *
            go_wp2
            go_region
            go_wp2
            refine ⟨⟨k + 1, _, _, by omega, by go_num, rfl, rfl, ?_, ?_, ?_, ha.drew⟩, by simp [intOf]; omega⟩
            · rw [ByteArray.size_extract]; omega
            · rw [ByteArray.size_append]; omega
            · exact HV
          · have hno : apL l (s, ⟨#[]⟩) = none := hS.out (by unfold ap1; rw [hq]; simp [hn, hE]; exact fun c => hD (by rw [c]))
            have hO : apO l s = (⟨#[]⟩, false) := by unfold apO; rw [hno]
            have HO := hide hO
            have hE2 : decide (x.extract 0 l[k].drop.size = l[k].drop) = false := decide_eq_false hE
            have hD3 : l[k].drop.toList.isEmpty = false := by rw [e1]; exact decide_eq_false hD
            clear hk0 hq hS hT e1 e2 hno hO hpk0
            have hdk : decide (x.size < l[k].drop.size) = false := decide_eq_false hn
            generalize l[k].drop = D at *
            generalize l[k].put = U at *
            have hE3 : ((x.extract 0 D.size).toList == D.toList) = false := by
              rw [ByteArray.toList_eq, ByteArray.toList_eq]; exact beq_eq_false_iff_ne.2 (fun c => hE (ba_eq c))
            clear hE2 hE
            go_wp2
            go_region
            go_wp2
            go_ret2
            exact ⟨by rw [HO.out]; rfl, ha.drew⟩
    · obtain rfl : k = l.length := by omega
      have hO : apO l s = (y, x.toList.isEmpty) := by
        have := hap.out
        rw [List.take_length] at this
        unfold apO; rw [this]
      have HO := hide hO
      clear hO
      go_wp2
      go_ret2
      exact ⟨by rw [HO.out]; rfl, hbel⟩
end Go.Proofs.YtfiefklhhchebaaDoor

set_option linter.unusedVariables false
namespace Go.Proofs.YtfiefklhhchebaaDoor
open Go.RowKit
open Doc1

def tS (s : ByteArray) (a : ByteArray × Nat) (y : Spl) : ByteArray × Nat := (a.1 ++ s.extract a.2 y.frm ++ y.put, y.til)
def tA (s : ByteArray) (ys : List Spl) : ByteArray × Nat := ys.foldl (tS s) (e0, 0)
def txt (s : ByteArray) (ys : List Spl) : ByteArray := (tA s ys).1 ++ s.extract (tA s ys).2 s.size
theorem tA_snoc (s : ByteArray) (ys : List Spl) (y : Spl) : tA s (ys ++ [y]) = tS s (tA s ys) y := by unfold tA; rw [List.foldl_append]; rfl
theorem exL (s : ByteArray) (a b : Nat) : (s.extract a b).data.toList = (s.data.toList.drop a).take (b - a) := by
  simp only [ByteArray.data_extract, Array.toList_extract, List.extract_eq_take_drop]
theorem apdL (a b : ByteArray) : (a ++ b).data.toList = a.data.toList ++ b.data.toList := by simp
theorem ex_nil (s : ByteArray) (a : Nat) : s.extract a a = e0 := ba_eq (by rw [exL]; simp [e0])
theorem apd_e0 (a : ByteArray) : a ++ e0 = a := ba_eq (by rw [apdL]; simp [e0])
theorem e0_apd (a : ByteArray) : e0 ++ a = a := ba_eq (by rw [apdL]; simp [e0])
theorem apd_assoc (a b c : ByteArray) : a ++ b ++ c = a ++ (b ++ c) := ba_eq (by rw [apdL, apdL, apdL, apdL, List.append_assoc])
theorem ex_ex {s : ByteArray} {a i j : Nat} (h : a + j ≤ s.size) : (s.extract a s.size).extract i j = s.extract (a + i) (a + j) := ba_eq (by
  have hl : s.data.toList.length = s.size := by simp
  rw [exL, exL, exL, List.drop_take, List.take_take, List.drop_drop]
  congr 1
  omega)
theorem ex_sz {s : ByteArray} {a b : Nat} (h : b ≤ s.size) : (s.extract a b).size = b - a := by rw [ByteArray.size_extract]; omega
theorem ex_cat {s : ByteArray} {a b c : Nat} (h1 : a ≤ b) (h2 : b ≤ c) (h3 : c ≤ s.size) : s.extract a b ++ s.extract b c = s.extract a c := ba_eq (by rw [apdL]; exact ext_join s h1 h2 h3)
theorem ex_all (s : ByteArray) : s.extract 0 s.size = s := ba_eq (by rw [exL, List.drop_zero]; exact List.take_of_length_le (by simp))
theorem tA_til {s : ByteArray} {ys : List Spl} : (tA s ys).2 = (gA s ys).2 := by
  rcases List.eq_nil_or_concat ys with rfl | ⟨o, y, rfl⟩
  · rfl
  · rw [List.concat_eq_append, tA_snoc, gA_snoc]; rfl
theorem tA_jst {s : ByteArray} {out : List Spl} (ha : Asc s out) {x : Spl} (h1 : (gA s out).2 ≤ x.frm) : tA s (jst out x) = tS s (tA s out) x := by
  cases ha with
  | nil => rfl
  | @snoc out y ha g1 g2 g3 =>
    rw [gA_til] at h1
    by_cases hf : y.til < x.frm
    · rw [jst_far _ _ _ hf, tA_snoc]
    · have he : x.frm = y.til := by omega
      rw [jst_near _ _ _ hf, tA_snoc, tA_snoc]
      unfold tS
      simp only
      rw [he, ex_nil, apd_e0, ← apd_assoc]
theorem tA_jnt {s : ByteArray} {ys : List Spl} (ha : Asc s ys) : tA s (jnt ys) = tA s ys := by
  induction ha with
  | nil => rfl
  | @snoc out x ha h1 h2 h3 ih =>
    have j := jnt_asc ha
    rw [jnt_snoc, tA_jst j.1 (by rw [j.2.1]; exact h1), ih, tA_snoc]
theorem txt_jnt {s : ByteArray} {ys : List Spl} (ha : Asc s ys) : txt s (jnt ys) = txt s ys := by unfold txt; rw [tA_jnt ha]
/-- What is replaced by itself stays. -/
theorem txt_same {s : ByteArray} {ys : List Spl} (ha : Asc s ys) (h : ∀ y ∈ ys, y.put = s.extract y.frm y.til) : txt s ys = s := by
  have key : (tA s ys).1 = s.extract 0 (gA s ys).2 ∧ (gA s ys).2 ≤ s.size := by
    induction ha with
    | nil => exact ⟨(ex_nil s 0).symm, Nat.zero_le _⟩
    | @snoc out x ha h1 h2 h3 ih =>
      have i := ih (fun y hy => h y (List.mem_append_left _ hy))
      rw [tA_snoc, gA_til]
      refine ⟨?_, h3⟩
      unfold tS
      simp only
      rw [i.1, tA_til, h x (by simp), ex_cat (Nat.zero_le _) h1 (by omega), ex_cat (Nat.zero_le _) (by omega) h3]
  unfold txt
  rw [key.1, tA_til, ex_cat (Nat.zero_le _) key.2 (Nat.le_refl _), ex_all]
theorem apL_app (a b : List Pt) (so : ByteArray × ByteArray) : apL (a ++ b) so = (apL a so).bind (apL b) := by
  unfold apL; rw [List.foldlM_append]; rfl
theorem apL_one (p : Pt) (so : ByteArray × ByteArray) : apL [p] so = ap1 so p := by
  unfold apL; simp
theorem ap_kp {s o : ByteArray} {a b : Nat} (h1 : a ≤ b) (h2 : b ≤ s.size) : apL (if 0 < b - a then [kp (b - a)] else []) (s.extract a s.size, o) = some (s.extract b s.size, o ++ s.extract a b) := by
  by_cases h : 0 < b - a
  · rw [if_pos h, apL_one]
    unfold ap1
    have e1 : (kp (b - a)).keep.toNat = b - a := by simp [kp]
    have e2 : (kp (b - a)).drop.size = 0 := rfl
    have e3 : (kp (b - a)).put = e0 := rfl
    have e4 : 0 < (kp (b - a)).keep := kp_pos h
    simp only [e1, e2, e3, Nat.add_zero]
    rw [if_neg (by rw [ex_sz (Nat.le_refl _)]; omega), if_neg (fun c => c.1 (kpD _)), if_pos e4, apd_e0, ex_sz (Nat.le_refl _), ex_ex (by omega), ex_ex (by omega)]
    rw [show a + (b - a) = b by omega, show a + (s.size - a) = s.size by omega, Nat.add_zero]
  · obtain rfl : a = b := by omega
    rw [if_neg h, ex_nil, apd_e0]
    rfl
theorem ap_pp {r o b : ByteArray} : apL (if b.data.toList = [] then [] else [pp b.data.toList]) (r, o) = some (r, o ++ b) := by
  by_cases h : b.data.toList = []
  · rw [if_pos h]
    have : b = e0 := ba_eq (by rw [h]; rfl)
    rw [this, apd_e0]
    rfl
  · rw [if_neg h, apL_one]
    unfold ap1
    have e1 : (pp b.data.toList).keep.toNat = 0 := rfl
    have e2 : (pp b.data.toList).drop.size = 0 := rfl
    have e3 : (pp b.data.toList).put = b := by unfold pp; rw [ba_of]
    have e4 : ¬ 0 < (pp b.data.toList).keep := by simp [pp]
    simp only [e1, e2, e3, Nat.add_zero]
    rw [if_neg (by omega), if_neg (fun c => c.1 (ppD _)), if_neg e4, ex_all]
theorem ap_dp {s o : ByteArray} {a b : Nat} (h1 : a < b) (h2 : b ≤ s.size) : apL (if (s.extract a b).data.toList = [] then [] else [dp (s.extract a b).data.toList]) (s.extract a s.size, o) = some (s.extract b s.size, o) := by
  rw [if_neg (ext_ne h1 h2), apL_one]
  unfold ap1
  have e1 : (dp (s.extract a b).data.toList).keep.toNat = 0 := rfl
  have e5 : (dp (s.extract a b).data.toList).drop = s.extract a b := by unfold dp; rw [ba_of]
  have e3 : (dp (s.extract a b).data.toList).put = e0 := rfl
  have e4 : ¬ 0 < (dp (s.extract a b).data.toList).keep := by simp [dp]
  simp only [e1, e5, e3, Nat.zero_add]
  rw [ex_sz h2, ex_sz (Nat.le_refl _), if_neg (by omega), ex_ex (by omega), ex_ex (by omega), show a + (b - a) = b by omega, show a + (s.size - a) = s.size by omega, Nat.add_zero, if_neg (fun c => c.2 rfl), if_neg e4, apd_e0]
theorem ap_gA {s : ByteArray} {ys : List Spl} (ha : Asc s ys) : apL (ftP (gA s ys).1) (s, e0) = some (s.extract (gA s ys).2 s.size, (tA s ys).1) ∧ (gA s ys).2 ≤ s.size := by
  induction ha with
  | nil => exact ⟨by show some (s, e0) = some (s.extract 0 s.size, e0); rw [ex_all], Nat.zero_le _⟩
  | @snoc out x ha h1 h2 h3 ih =>
    refine ⟨?_, by rw [gA_til]; exact h3⟩
    rw [gA_snoc, tA_snoc]
    unfold gS tS
    simp only
    rw [ftP_app, apL_app, ih.1, ftP_three]
    show apL _ _ = _
    rw [apL_app, ap_kp h1 (by omega)]
    show apL _ _ = _
    rw [apL_app, ap_pp]
    show apL _ _ = _
    rw [ap_dp h2 h3, tA_til]
theorem apO_raw {s : ByteArray} {ys : List Spl} (ha : Asc s ys) : apO (ftP (rawG s ys)) s = (txt s ys, true) := by
  have h := ap_gA ha
  have e : apL (ftP (rawG s ys)) (s, ⟨#[]⟩) = some (s.extract s.size s.size, txt s ys) := by
    unfold rawG
    rw [ftP_app, apL_app, show (⟨#[]⟩ : ByteArray) = e0 from rfl, h.1]
    show apL _ _ = _
    rw [ftP_kp, ap_kp h.2 (Nat.le_refl _)]
    unfold txt
    rw [tA_til]
  unfold apO
  rw [e, ex_nil]
  have : e0.toList.isEmpty = true := emp_yes rfl
  simp only [this]
/-- What the change of replacing makes. -/
theorem apO_rep {p s W : ByteArray} (h0 : 0 < p.size) (hp : good p.data.toList = true) (hs : s.size ≤ 300) (hW : good W.data.toList = true) : apO (repL p s W) s = (txt s (sps p s W), true) := by
  by_cases hWp : W = p
  · have e : repL p s W = ftP (rawG s []) := by
      unfold repL
      rw [if_pos hWp]
      show keepL _ = ftP [⟨((s.size - 0 : Nat) : Int), e0, e0⟩]
      rw [ftP_kp, Nat.sub_zero]
      unfold keepL
      by_cases h : 0 < s.size
      · rw [if_pos ⟨by omega, by omega⟩, if_pos h]; rfl
      · rw [if_neg (by omega), if_neg h]
    have e2 : txt s (sps p s W) = s := txt_same (sps_asc W h0) (fun y hy => by
      unfold sps at hy
      obtain ⟨x, hx, rfl⟩ := List.mem_map.1 hy
      show W = s.extract x (x + p.size)
      rw [(plc_is h0 hx).2, hWp])
    rw [e, apO_raw .nil, e2]
    unfold txt tA
    simp only [List.foldl_nil]
    rw [e0_apd, ex_all]
  · have e : repL p s W = ftP (rawG s (jnt (sps p s W))) := by
      unfold repL
      rw [if_neg hWp]
      refine raw_add (sps_asc W h0) (fun q hq => ?_)
      have h := gA_ok (W := W) h0 hp hs hW (sps p s W).length
      rw [List.take_of_length_le (Nat.le_refl _)] at h
      unfold rawG at hq
      rcases List.mem_append.1 hq with c | c
      · exact h.1 q c
      · rw [List.mem_singleton] at c; subst c; exact pk_keep (by omega)
    rw [e, apO_raw (jnt_asc (sps_asc W h0)).1, txt_jnt (sps_asc W h0)]
theorem raw_kd {s : ByteArray} {ys : List Spl} : ∀ q ∈ rawG s ys, 0 ≤ q.keep ∧ (q.drop.data.toList ≠ [] → q.keep = 0) := by
  have key : ∀ (l : List Spl) (a : List Pt × Nat), (∀ q ∈ a.1, 0 ≤ q.keep ∧ (q.drop.data.toList ≠ [] → q.keep = 0)) → ∀ q ∈ (l.foldl (gS s) a).1, 0 ≤ q.keep ∧ (q.drop.data.toList ≠ [] → q.keep = 0) := by
    intro l
    induction l with
    | nil => intro a h; exact h
    | cons y l ih =>
      intro a h
      refine ih _ (fun q hq => ?_)
      unfold gS at hq
      rcases List.mem_append.1 hq with c | c
      · exact h q c
      · simp only [List.mem_cons, List.not_mem_nil, or_false] at c
        rcases c with rfl | rfl | rfl
        · exact ⟨by show (0 : Int) ≤ ((y.frm - a.2 : Nat) : Int); omega, fun c => absurd rfl c⟩
        · exact ⟨Int.le_refl _, fun _ => rfl⟩
        · exact ⟨Int.le_refl _, fun _ => rfl⟩
  intro q hq
  unfold rawG at hq
  rcases List.mem_append.1 hq with c | c
  · exact key ys ([], 0) (fun q hq => by cases hq) q c
  · rw [List.mem_singleton] at c
    subst c
    exact ⟨by show (0 : Int) ≤ ((s.size - (gA s ys).2 : Nat) : Int); omega, fun c => absurd rfl c⟩
theorem repL_kd {p s W : ByteArray} (h0 : 0 < p.size) (hp : good p.data.toList = true) (hs : s.size ≤ 300) (hW : good W.data.toList = true) : ∀ q ∈ repL p s W, kd q := by
  intro q hq
  have hbd := (repL_bd (W := W) h0 hp hs hW).2 q hq
  have h2 : 0 ≤ q.keep ∧ (q.drop.data.toList ≠ [] → q.keep = 0) := by
    by_cases hWp : W = p
    · unfold repL at hq
      rw [if_pos hWp] at hq
      unfold keepL at hq
      split at hq
      · rw [List.mem_singleton] at hq
        subst hq
        exact ⟨by show (0 : Int) ≤ (s.size : Int); omega, fun c => absurd rfl c⟩
      · cases hq
    · have e : repL p s W = ftP (rawG s (jnt (sps p s W))) := by
        unfold repL
        rw [if_neg hWp]
        refine raw_add (sps_asc W h0) (fun q hq => ?_)
        have h := gA_ok (W := W) h0 hp hs hW (sps p s W).length
        rw [List.take_of_length_le (Nat.le_refl _)] at h
        unfold rawG at hq
        rcases List.mem_append.1 hq with c | c
        · exact h.1 q c
        · rw [List.mem_singleton] at c; subst c; exact pk_keep (by omega)
      rw [e] at hq
      exact raw_kd q (List.mem_filter.1 hq).1
  exact ⟨h2.1, hbd.1, hbd.2.1, hbd.2.2, h2.2⟩
theorem tA_sz {s : ByteArray} (hs : s.size ≤ 300) {ys : List Spl} {M : Nat} (hb : ∀ y ∈ ys, y.put.size ≤ M) : ∀ k, k ≤ ys.length → (tA s (ys.take k)).1.size ≤ (300 + M) * k
  | 0, _ => Nat.zero_le _
  | k + 1, hk => by
    have ih := tA_sz hs hb k (by omega)
    rw [List.take_succ_eq_append_getElem (by omega), tA_snoc]
    unfold tS
    simp only
    rw [ByteArray.size_append, ByteArray.size_append, ByteArray.size_extract]
    have := hb _ (List.getElem_mem (show k < ys.length by omega))
    rw [Nat.mul_succ]
    omega
end Go.Proofs.YtfiefklhhchebaaDoor
