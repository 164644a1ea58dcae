/- The program's functions over ropes, on: SplitRope, ByteAt. -/
import Derived.Test.YtpdngncioblibacDoorRopd
set_option linter.unusedVariables false
namespace Go.Proofs.YtpdngncioblibacDoor
open Go.RowKit
open Doc1

theorem good_of {l m : List UInt8} (h : good l = true) (hs : ∀ c ∈ m, c ∈ l) (hl : m.length ≤ l.length) : good m = true := by
  unfold good allOk at h ⊢
  simp only [Bool.and_eq_true, decide_eq_true_eq, List.all_eq_true] at h ⊢
  exact ⟨fun c hc => h.1 c (hs c hc), by omega⟩

theorem ext_list (s : ByteArray) (a b : Nat) : (s.extract a b).data.toList = (s.data.toList.take b).drop a := by
  simp only [ByteArray.data_extract, Array.toList_extract, List.extract_eq_take_drop, List.drop_take]

theorem gpc_ext {s : ByteArray} (h : gpc s = true) {a b : Nat} (hab : a < b) (hb : b ≤ s.size) : gpc (s.extract a b) = true := by
  have h8 := gpc_bd h
  have hg : good (s.extract a b).data.toList = true := good_of (gpc_good h) (fun c hc => by rw [ext_list] at hc; exact List.mem_of_mem_take (List.mem_of_mem_drop hc)) (by rw [← szB, ← szB, ByteArray.size_extract]; omega)
  unfold gpc
  rw [hg]
  simp only [ByteArray.size_extract, Bool.and_true, Bool.and_eq_true, decide_eq_true_eq]
  omega

theorem spl_nb (t : Lm) : ∀ n, nbO (spl t n).1 ≤ t.nb ∧ nbO (spl t n).2 ≤ t.nb := by
  induction t with
  | pc s => intro n; simp only [spl]; split; · simp [nbO, Lm.nb]
            · split <;> simp [nbO, Lm.nb]
  | jn a b iha ihb =>
    intro n
    simp only [spl, Lm.nb]
    split
    · simp [nbO, Lm.nb]
    · split
      · simp [nbO, Lm.nb]
      · split
        · refine ⟨?_, ?_⟩
          · have := (iha n).1; show nbO (spl a n).1 ≤ _; omega
          · have h1 := jo_nb (spl a n).2 (some b); have := (iha n).2; show nbO (jo (spl a n).2 (some b)) ≤ _; rw [show nbO (some b) = b.nb from rfl] at h1; omega
        · refine ⟨?_, ?_⟩
          · have h1 := jo_nb (some a) (spl b (n - a.sz)).1; have := (ihb (n - a.sz)).1; show nbO (jo (some a) (spl b (n - a.sz)).1) ≤ _; rw [show nbO (some a) = a.nb from rfl] at h1; omega
          · have := (ihb (n - a.sz)).2; show nbO (spl b (n - a.sz)).2 ≤ _; omega

theorem gdO_some {t : Lm} (h : t.gd) : gdO (some t) := h

theorem gdO_none : gdO none := fun s hs => by cases hs

theorem spl_gd (t : Lm) : ∀ n, n ≤ t.sz → t.gd → gdO (spl t n).1 ∧ gdO (spl t n).2 := by
  induction t with
  | pc s =>
    intro n hn h
    simp only [Lm.sz] at hn
    have hp := gd_pc.1 h
    simp only [spl]
    split
    · exact ⟨gdO_none, h⟩
    · split
      · exact ⟨h, gdO_none⟩
      · exact ⟨gd_pc.2 (gpc_ext hp (by omega) hn), gd_pc.2 (gpc_ext hp (by omega) (Nat.le_refl _))⟩
  | jn a b iha ihb =>
    intro n hn h
    simp only [Lm.sz] at hn
    obtain ⟨ga, gb⟩ := gd_jn.1 h
    simp only [spl]
    split
    · exact ⟨gdO_none, h⟩
    · split
      · exact ⟨h, gdO_none⟩
      · split
        · rename_i h1 h2 h3
          exact ⟨(iha n h3 ga).1, jo_gd (iha n h3 ga).2 gb⟩
        · rename_i h1 h2 h3
          exact ⟨jo_gd ga (ihb (n - a.sz) (by omega) gb).1, (ihb (n - a.sz) (by omega) gb).2⟩

/-- The text of a tree. -/
def txO (o : Option Lm) : List UInt8 := (catB (pcO o)).data.toList

theorem txO_jo (a b : Option Lm) : txO (jo a b) = txO a ++ txO b := by unfold txO; rw [jo_pc, catB_app, apdB]

theorem txO_len (o : Option Lm) : (txO o).length = szO o := by unfold txO; rw [← szB, catB_size, pcO_tot]

theorem txO_none : txO none = [] := rfl

theorem txO_pc (s : ByteArray) : txO (some (.pc s)) = s.data.toList := by unfold txO; rw [catB_list]; simp [pcO, Lm.pcs]

theorem txO_jn (a b : Lm) : txO (some (.jn a b)) = txO (some a) ++ txO (some b) := txO_jo (some a) (some b)

theorem spl_tx (t : Lm) : ∀ n, n ≤ t.sz → txO (spl t n).1 = (txO (some t)).take n ∧ txO (spl t n).2 = (txO (some t)).drop n := by
  induction t with
  | pc s =>
    intro n hn
    simp only [Lm.sz] at hn
    have hs := szB s
    rw [txO_pc]
    simp only [spl]
    split
    · subst n; simp [txO_none, txO_pc]
    · split
      · subst n; rw [List.take_of_length_le (by omega), List.drop_eq_nil_of_le (by omega)]; exact ⟨txO_pc s, rfl⟩
      · rw [txO_pc, txO_pc, ext_list, ext_list]
        rw [List.drop_zero]
        exact ⟨rfl, by rw [List.take_of_length_le (by omega)]⟩
  | jn a b iha ihb =>
    intro n hn
    simp only [Lm.sz] at hn
    have la := txO_len (some a)
    have lb := txO_len (some b)
    simp only [szO] at la lb
    simp only [spl]
    split
    · subst n; simp [txO_none]
    · split
      · subst n
        have hl : (txO (some (.jn a b))).length = a.sz + b.sz := by rw [txO_len]; rfl
        rw [List.take_of_length_le (by omega), List.drop_eq_nil_of_le (by omega)]
        exact ⟨rfl, rfl⟩
      · split
        · rename_i h1 h2 h3
          have := iha n h3
          rw [txO_jn]
          refine ⟨?_, ?_⟩
          · show txO (spl a n).1 = _
            rw [this.1, List.take_append_of_le_length (by omega)]
          · show txO (jo (spl a n).2 (some b)) = _
            rw [txO_jo, this.2, List.drop_append_of_le_length (by omega)]
        · rename_i h1 h2 h3
          have := ihb (n - a.sz) (by omega)
          rw [txO_jn]
          refine ⟨?_, ?_⟩
          · show txO (jo (some a) (spl b (n - a.sz)).1) = _
            rw [txO_jo, this.1, List.take_append, show (txO (some a)).take n = txO (some a) from List.take_of_length_le (by omega), la]
          · show txO (spl b (n - a.sz)).2 = _
            rw [this.2, List.drop_append, show (txO (some a)).drop n = [] from List.drop_eq_nil_of_le (by omega), la]; rfl

noncomputable def spOk (l : List Bg) (n : Int) : Bool := rtB l && (decide (0 ≤ n) && decide (n ≤ (szO (rtO l) : Int)))

noncomputable def spL1 (l : List Bg) (n : Int) : List Bg := if spOk l n then bo (splO (rtO l) n.toNat).1 else []

noncomputable def spL2 (l : List Bg) (n : Int) : List Bg := if spOk l n then bo (splO (rtO l) n.toNat).2 else []

theorem splO_ok (o : Option Lm) (n : Nat) (hn : n ≤ szO o) (hz : szO o ≤ 300) (hb : nbO o ≤ 200) : okB (splO o n).1 = bo (splO o n).1 ∧ okB (splO o n).2 = bo (splO o n).2 ∧ nbO (splO o n).1 ≤ 200 ∧ nbO (splO o n).2 ≤ 200 ∧ szO (splO o n).1 ≤ 300 ∧ szO (splO o n).2 ≤ 300 := by
  cases o with
  | none => exact ⟨rfl, rfl, by simp [splO, nbO], by simp [splO, nbO], by simp [splO, szO], by simp [splO, szO]⟩
  | some t =>
    simp only [nbO, szO] at hn hz hb
    have h1 := spl_nb t n
    have h2 := spl_sz t n hn
    have k1 : fit (spl t n).1 = true := by unfold fit; simp; omega
    have k2 : fit (spl t n).2 = true := by unfold fit; simp; omega
    exact ⟨by unfold okB splO; rw [k1]; rfl, by unfold okB splO; rw [k2]; rfl, by simp only [splO]; omega, by simp only [splO]; omega, by simp only [splO]; omega, by simp only [splO]; omega⟩

theorem CellR.other {w : World} {c d : Nat} {x : Value} (h : CellR w c x) (hd : d ≠ c) (y : Value) : CellR (w.setCell ⟨d, 0, none⟩ y) c x := by
  unfold CellR at h ⊢
  rw [Below.heap_setCell _ _ _ _ (fun e => hd e.symm)]
  exact h

/-- Two ropes that a function tells. -/
def Rp2Post (w : World) (l m : List Bg) (b : Bool) (e : Ending) (w' : World) : Prop := ∃ v u, e = .returned (.tuple #[.agg #[v], .agg #[u], .bool b]) ∧ BoOwn w' w.heap.size v l ∧ BoOwn w' w.heap.size u m ∧ (∀ y z, v.ownBlock = some y → u.ownBlock = some z → y ≠ z) ∧ Below w.heap.size w w'

/-- The byte at a place, and how many are gone through. -/
def bat : Lm → Nat → UInt8 × Nat
  | .pc s, n => (s.data.toList.getD n 0, 1)
  | .jn a b, n => if a.sz ≤ n then ((bat b (n - a.sz)).1, (bat b (n - a.sz)).2 + 1) else ((bat a n).1, (bat a n).2 + 1)

theorem bat_dp (t : Lm) : ∀ n, (bat t n).2 ≤ t.dp + 1 := by
  induction t with
  | pc s => intro n; simp [bat, Lm.dp]
  | jn a b iha ihb =>
    intro n
    simp only [bat, Lm.dp]
    split
    · have := ihb (n - a.sz); simp only; omega
    · have := iha n; simp only; omega

theorem bat_tx (t : Lm) : ∀ n, n < t.sz → (bat t n).1 = (txO (some t)).getD n 0 := by
  induction t with
  | pc s => intro n hn; rw [txO_pc]; rfl
  | jn a b iha ihb =>
    intro n hn
    simp only [Lm.sz] at hn
    have la := txO_len (some a)
    simp only [szO] at la
    rw [txO_jn]
    simp only [bat]
    split
    · rename_i h; rw [ihb _ (by omega), List.getD_eq_getElem?_getD, List.getD_eq_getElem?_getD, List.getElem?_append_right (by omega), la]
    · rename_i h; rw [iha _ (by omega), List.getD_eq_getElem?_getD, List.getD_eq_getElem?_getD, List.getElem?_append_left (by omega)]

def BaPost (t : Lm) (n : Nat) (w : World) (e : Ending) (w' : World) : Prop := e = .returned (.tuple #[.int .u8 ((bat t n).1.toNat : Int), .int .i64 ((bat t n).2 : Int)]) ∧ Below w.heap.size w w'

def BaC (t : Lm) : Prop := ∃ T x K, lv t = .iface T x ∧ (∀ a w, (callFunc K a).run Tryd.prog w = .ok (.enter K a) w) ∧ (∀ w, (method 192 T x "loop.example/g00253/impl.byteAt").run Tryd.prog w = .ok (K, x) w) ∧ ∀ (n : Nat) w, n < t.sz → Calls Tryd.prog K #[x, .int .i64 (n : Int)] w (BaPost t n w)

end Go.Proofs.YtpdngncioblibacDoor
