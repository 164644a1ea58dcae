/- The plain mathematics of chapter 2, on: the tree of a document can be laid out, and its text is the document. -/
import Derived.Test.YtbmnciejaknonauDoorTree2
import Derived.Test.YtbmnciejaknonauDoorTree3
namespace Go.Proofs.YtbmnciejaknonauDoor.Doc1

def Desc (l : List Nat) : Prop := l.Pairwise (· > ·)
theorem endI_mem (u : Int) : ∀ (op : List Nat) (text : List UInt8) (fr to : List Nat) (y : LS), endI text fr to op u = some y → (∃ o ∈ op, (o : Int) = u) ∧ y.fr = fr ∧ (∀ o ∈ y.op, o ∈ op) ∧ (Desc op → Desc y.op)
  | [], _, _, _, _, h => by simp [endI] at h
  | o :: r, text, fr, to, y, h => by
    unfold endI at h
    split at h
    · rename_i he
      cases h
      exact ⟨⟨o, by simp, he⟩, rfl, fun x hx => hx, fun hD => hD⟩
    · obtain ⟨⟨x, hx, hxu⟩, h2, h3, h4⟩ := endI_mem u r _ _ _ y h
      exact ⟨⟨x, List.mem_cons_of_mem _ hx, hxu⟩, h2, fun z hz => List.mem_cons_of_mem _ (h3 z hz), fun hD => h4 (List.pairwise_cons.1 hD).2⟩
/-- Ending further is ending on. -/
theorem endI_past (u u' : Int) (hu : u' < u) : ∀ (op : List Nat) (text : List UInt8) (fr to : List Nat) (y : LS), Desc op → endI text fr to op u = some y → endI text fr to op u' = endI y.text y.fr y.to y.op u'
  | [], _, _, _, _, _, h => by simp [endI] at h
  | o :: r, text, fr, to, y, hD, h => by
    by_cases he : (o : Int) = u
    · unfold endI at h
      rw [if_pos he] at h
      cases h
      rfl
    · rw [endI, if_neg he] at h
      have hm := (endI_mem u r _ _ _ y h).1
      obtain ⟨x, hx, hxu⟩ := hm
      have hox : o > x := (List.pairwise_cons.1 hD).1 x hx
      have hne : (o : Int) ≠ u' := by omega
      rw [endI, if_neg hne]
      exact endI_past u u' hu r _ _ _ y (List.pairwise_cons.1 hD).2 h
theorem endI_self (text : List UInt8) (fr to : List Nat) (o : Nat) (r : List Nat) : endI text fr to (o :: r) (o : Int) = some ⟨text, fr, to, o :: r⟩ := by
  rw [endI, if_pos rfl]
/-- What is known of the layout behind some bytes of a document. -/
structure LayI (b : List UInt8) (p : PS) (zl zE : LS) : Prop where
  all : addAll z0 p.l = some zl
  ends : zl.endInto p.up = some zE
  op : zE.op = p.st
  text : zE.text ++ p.r = b
  len : zE.fr.length = p.l.length
  run : p.r.all plB = true
  off : endsPl zE.text = false
  desc : Desc zl.op
  lt : ∀ o ∈ zl.op, o < zl.fr.length
theorem LayI.flen {b : List UInt8} {p : PS} {zl zE : LS} (h : LayI b p zl zE) : zE.fr = zl.fr := (endI_mem p.up _ _ _ _ _ h.ends).2.1
theorem shp_elem {c : UInt8} (u : Int) (h : opB c = true) : shp ⟨ba [c], ba [], u⟩ = .elem := by
  unfold shp
  simp only [ba_list]
  rw [if_neg (by simp), if_pos (by simp [isNm, h])]
theorem shp_run {r : List UInt8} (u : Int) (h1 : r ≠ []) (h2 : r.all plB = true) (h3 : r.length ≤ 300) : shp ⟨ba [], ba r, u⟩ = .run := by
  unfold shp
  simp only [ba_list]
  rw [if_neg (by simp [h1]), if_neg (by simp [isNm]), if_pos (by simp [isRn, h1, h3]; simpa using h2)]
/-- With the run that may go on. -/
theorem lay_out {b : List UInt8} {p : PS} {zl zE : LS} (h : LayI b p zl zE) (hst : p.st ≠ []) (hb : b.length ≤ 300) : ∃ z2 z3, addAll z0 p.out = some z2 ∧ z2.endInto p.up = some z3 ∧ z3.text = b ∧ z3.op = p.st ∧ z3.fr = z2.fr ∧ z3.fr.length = p.out.length ∧ Desc z2.op ∧ ∀ o ∈ z2.op, o < z2.fr.length := by
  by_cases hr : p.r = []
  · refine ⟨zl, zE, by rw [out_nil _ hr]; exact h.all, h.ends, by have := h.text; rw [hr] at this; simpa using this, h.op, h.flen, by rw [out_nil _ hr]; exact h.len, h.desc, h.lt⟩
  · have ho : p.out = p.l ++ [⟨ba [], ba p.r, p.up⟩] := by simp [PS.out, hr]
    have hrl : p.r.length ≤ 300 := by have := congrArg List.length h.text; simp at this; omega
    have ha : addN zl ⟨ba [], ba p.r, p.up⟩ = some (zE.write p.r) := by
      unfold addN
      rw [shp_run _ hr h.run hrl]
      simp only [h.ends, Option.bind_some, h.off, ba_list]
      rfl
    have hop : (zE.write p.r).op = p.st := h.op
    obtain ⟨o, r, hor⟩ : ∃ o r, p.st = o :: r := by
      cases hs : p.st with
      | nil => exact absurd hs hst
      | cons o r => exact ⟨o, r, rfl⟩
    refine ⟨zE.write p.r, zE.write p.r, by rw [ho, addAll_snoc, h.all]; exact ha, ?_, h.text, hop, rfl, by rw [ho]; simp [LS.write, h.len], ?_, ?_⟩
    · unfold LS.endInto
      rw [hop, hor]
      have : p.up = (o : Int) := by simp [PS.up, hor]
      rw [this, endI_self]
      have e : zE.write p.r = ⟨(zE.write p.r).text, (zE.write p.r).fr, (zE.write p.r).to, o :: r⟩ := by rw [← hor, ← hop]
      exact congrArg some e.symm
    · rw [hop, ← h.op]; exact (endI_mem p.up _ _ _ _ _ h.ends).2.2.2 h.desc
    · intro x hx
      have hx2 : x ∈ zE.op := hx
      have := h.lt x ((endI_mem p.up _ _ _ _ _ h.ends).2.2.1 x hx2)
      have hl := h.flen
      simp only [LS.write, List.length_append]
      rw [hl]; omega
theorem layI_start : LayI [] pin ⟨[], [0], [0], [0]⟩ ⟨[], [0], [0], [0]⟩ where
  all := by simp [addAll, addN, shp, pin, z0, LS.push, LS.write, ba]
  ends := by simp [LS.endInto, endI, PS.up, pin]
  op := rfl
  text := rfl
  len := rfl
  run := rfl
  off := rfl
  desc := by simp [Desc]
  lt := by simp
theorem layI_step {b : List UInt8} {p : PS} {zl zE : LS} (h : LayI b p zl zE) (c : UInt8) (hc : okC c = true) (hch : Chain p.l p.st) (hd : 2 ≤ p.st.length ∨ enB c = false) (hb : b.length ≤ 300) : ∃ zl' zE', LayI (b ++ [c]) (pst p c) zl' zE' := by
  have hst : p.st ≠ [] := by intro e; rw [e] at hch; exact hch
  by_cases ho : opB c = true
  · obtain ⟨z2, z3, e1, e2, e3, e4, e5, e6, e7, e8⟩ := lay_out h hst hb
    rw [pst_op p ho]
    have ha : addN z2 ⟨ba [c], ba [], p.up⟩ = some (z3.push.write [c]) := by
      unfold addN
      rw [shp_elem _ ho]
      simp only [e2, Option.map_some, ba_list]
    have hop : (z3.push.write [c]).op = p.out.length :: p.st := by simp [LS.push, LS.write, e4, e6]
    have hnp : plB c = false := by have := (sep c).1; rw [ho] at this; simpa using this
    refine ⟨z3.push.write [c], z3.push.write [c], ⟨by rw [addAll_snoc, e1]; exact ha, ?_, hop, by simp [LS.push, LS.write, e3], by simp [LS.push, LS.write, e6], rfl, by simp [LS.push, LS.write, endsPl_snoc, hnp], ?_, ?_⟩⟩
    · unfold LS.endInto
      rw [hop]
      show endI _ _ _ _ ((p.out.length : Nat) : Int) = _
      rw [endI_self]
      have e : z3.push.write [c] = ⟨(z3.push.write [c]).text, (z3.push.write [c]).fr, (z3.push.write [c]).to, p.out.length :: p.st⟩ := by rw [← hop]
      exact congrArg some e.symm
    · rw [hop]
      refine List.pairwise_cons.2 ⟨fun x hx => (hch.mono (l_out p)).lt x hx, ?_⟩
      rw [← e4]; exact (endI_mem p.up _ _ _ _ _ e2).2.2.2 e7
    · rw [hop]
      intro x hx
      have hfl : (z3.push.write [c]).fr.length = p.out.length + 1 := by simp [LS.push, LS.write, e6]
      rw [hfl]
      rcases List.mem_cons.1 hx with rfl | hx
      · omega
      · have := (hch.mono (l_out p)).lt x hx; omega
  · by_cases he : enB c = true
    · obtain ⟨z2, z3, e1, e2, e3, e4, e5, e6, e7, e8⟩ := lay_out h hst hb
      rw [pst_en p he]
      rw [he] at hd
      simp at hd
      match hs : p.st, hch, hd with
      | u :: u' :: r, hch, _ =>
        have hlt : u' < u := hch.2.1
        have hup : p.up = (u : Int) := by simp [PS.up, hs]
        rw [hup] at e2
        rw [hs] at e4
        have hp := endI_past (u : Int) (u' : Int) (by omega) z2.op z2.text z2.fr z2.to z3 e7 e2
        rw [e4, endI, if_neg (by omega), endI_self] at hp
        have hcs : c = slash := by
          have : c.toNat = 47 := by simpa [enB] using he
          exact UInt8.toNat_inj.1 (by rw [this]; rfl)
        refine ⟨z2, ⟨z3.text ++ [slash], z3.fr, z3.to.set u (z3.text.length + 1), u' :: r⟩, ⟨e1, hp, rfl, by simp [e3, hcs], by show z3.fr.length = _; exact e6, rfl, by simp [endsPl_snoc, slash_pl], e7, e8⟩⟩
    · have hpl : plB c = true := by unfold okC at hc; simpa [ho, he] using hc
      rw [pst_pl p hpl]
      exact ⟨zl, zE, ⟨h.all, h.ends, h.op, by rw [← List.append_assoc, h.text], h.len, by simp [h.run, hpl], h.off, h.desc, h.lt⟩⟩
/-- X: the tree of a document can be laid out, and its text is the document. -/
theorem tree_lay (s : ByteArray) (hd : doc s.data.toList = true) : ∃ z y, addAll z0 (tree s.data.toList) = some z ∧ z.endInto 0 = some y ∧ y.text = s.data.toList := by
  have hs : s.size ≤ 300 := by
    have hd' := hd
    unfold doc good at hd'
    simp only [Bool.and_eq_true, decide_eq_true_eq] at hd'
    have := hd'.1.2
    simpa using this
  have hok : ∀ n (hn : n < s.size), okC s[n] = true := by
    intro n hn
    have hd' := hd
    unfold doc good at hd'
    simp only [Bool.and_eq_true] at hd'
    have h1 : allOk s.data.toList = true := hd'.1.1
    unfold allOk at h1
    have hm : s[n] ∈ s.data.toList := by
      have e := drop_cons s n hn
      have : s[n] ∈ s.data.toList.drop n := by rw [e]; simp
      exact List.mem_of_mem_drop this
    exact List.all_eq_true.1 h1 _ hm
  have key : ∀ k, k ≤ s.size → ∃ zl zE, LayI (s.data.toList.take k) (P s k) zl zE := by
    intro k
    induction k with
    | zero => intro _; exact ⟨_, _, layI_start⟩
    | succ k ih =>
      intro hk
      obtain ⟨zl, zE, h⟩ := ih (by omega)
      obtain ⟨hch, hln⟩ := P_ok s hd k (by omega)
      have hd2 : 2 ≤ (P s k).st.length ∨ enB (s[k]'(by omega)) = false := by
        cases he : enB (s[k]'(by omega)) with
        | false => exact Or.inr rfl
        | true =>
          left
          have h2 := (dep_bd s hd (k + 1) (by omega)).1
          rw [dep_succ s k (by omega), show dl (s[k]'(by omega)) = -1 by simp [dl, op_of_en he, he]] at h2
          omega
      obtain ⟨zl', zE', h'⟩ := layI_step h (s[k]'(by omega)) (hok k (by omega)) hch hd2 (by have := List.length_take_le k s.data.toList; omega)
      rw [take_snoc s k (by omega), P_succ s k (by omega)]
      exact ⟨zl', zE', h'⟩
  obtain ⟨zl, zE, h⟩ := key s.size (Nat.le_refl _)
  obtain ⟨hch, hln⟩ := P_ok s hd s.size (Nat.le_refl _)
  rw [dep_last s hd] at hln
  have hst : (P s s.size).st = [0] := by
    match hq : (P s s.size).st, hch, hln with
    | [o], hch, _ => rw [hch.1]
    | [], hch, _ => exact hch.elim
    | _ :: _ :: _, _, hln => simp at hln; omega
  obtain ⟨z2, z3, e1, e2, e3, _⟩ := lay_out h (by rw [hst]; simp) (by simp; omega)
  rw [P_last] at e1
  have hup : (P s s.size).up = 0 := by simp [PS.up, hst]
  rw [hup] at e2
  rw [List.take_of_length_le (by simp)] at e3
  exact ⟨z2, z3, e1, e2, e3⟩
end Go.Proofs.YtbmnciejaknonauDoor.Doc1
