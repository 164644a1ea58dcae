/- The model's l4Transform: two changes beside one another. -/
import Derived.Test.YtbooongkbninhaaDoorMrg3
import Derived.Test.YtbooongkbninhaaDoorPairsM
namespace Go.Proofs.YtbooongkbninhaaDoor
open Go.RowKit
open Doc1

theorem take_all {W : World} {B g : Nat} {p : Pt} {r : List Pt} (h : Rd W B g (p :: r)) (hq : gqs p) (hrl : r.length ≤ 1000) :
    Calls Tryd.prog 106 #[.pointer (some ⟨B, 0, none⟩), .int .i64 (psz p)] W fun e w' => e = .returned (ptV p) ∧ ∃ g', Rd w' B g' r ∧ (g' = g ∨ W.heap.size ≤ g') ∧ W.grownBy w' (some B) := by
  obtain ⟨n, hn⟩ : ∃ n : Nat, (n : Int) = psz p := ⟨(psz p).toNat, by have := psz_pos hq; omega⟩
  obtain ⟨e1, e2⟩ := whole_cut hq r hn
  have := take_gq h hq hrl (n := n) (by have := psz_pos hq; omega) (by omega)
  rw [e1, e2, hn] at this
  exact this
theorem ptV_kp (n : Nat) : ptV (kp n) = .agg #[.int .i64 (n : Int), .string ⟨#[]⟩, .string ⟨#[]⟩] := rfl
theorem bd_of {P : List Pt} (h : ∀ p ∈ P, gqs p) (hl : P.length ≤ 120) : (normL P).length ≤ 120 ∧ ∀ q ∈ normL P, Bd 1000000 q := by
  have := norm_bd P (fun p hp => gqs_pk (h p hp)) P.length (Nat.le_refl _)
  rw [List.take_length] at this
  exact ⟨by omega, fun q hq => (this.2 q hq).mono (by omega)⟩
theorem te_ct0 {X Y : List St} {q : Pt} {s PA PB : List Pt} {N : Nat} (h : TE X Y [] (q :: s) PA PB N) : q.put.data.toList ≠ [] := fun c => by
  have h1 := h.ct
  have h2 := ctk_taken (h.gy q (by simp)) c
  have h3 := psz_pos (h.gy q (by simp))
  rw [stL_cons, ctk_app] at h1
  have h4 : ctk (stL []) = 0 := rfl
  omega
theorem te_ct1 {X Y : List St} {p : Pt} {r PA PB : List Pt} {N : Nat} (h : TE X Y (p :: r) [] PA PB N) : p.put.data.toList ≠ [] := fun c => by
  have h1 := h.ct
  have h2 := ctk_taken (h.gx p (by simp)) c
  have h3 := psz_pos (h.gx p (by simp))
  rw [stL_cons, ctk_app] at h1
  have h4 : ctk (stL []) = 0 := rfl
  omega
/-- What the model answers of two changes of one text. -/
def TPost (X Y : List St) (w : World) (e : Ending) (w' : World) : Prop := ∃ (va vb : Value) (PA PB : List Pt), e = .returned (.tuple #[va, vb, .bool true]) ∧ trA (prR X Y) = stL PA ∧ trB (prR X Y) = stL PB ∧ (∀ p ∈ PA, gqs p) ∧ (∀ p ∈ PB, gqs p) ∧ PA.length ≤ 120 ∧ PB.length ≤ 120 ∧
  POwn w' w.heap.size va (normL PA) ∧ POwn w' w.heap.size vb (normL PB) ∧ Below w.heap.size w w'

set_option maxRecDepth 100000 in
set_option maxHeartbeats 8000000 in
theorem l4Transform_no {w : World} {aa ab : Option Addr} {ga ca gb cb : Nat} {la lb : List Pt} (ha : Pin w aa ga ca la) (hb : Pin w ab gb cb lb) (g1 : goodO la = true) (g2 : goodO lb = true) (hs : samA la lb = false) :
    Calls Tryd.prog 88 #[.slice aa la.length ca, .slice ab lb.length cb] w fun e w' => e = .returned (.tuple #[.slice none 0 0, .slice none 0 0, .bool false]) ∧ Below w.heap.size w w' := by
  obtain ⟨a60, apk, -, -⟩ := goodO_parts g1
  obtain ⟨b60, bpk, -, -⟩ := goodO_parts g2
  have S := l4Same_any ha hb a60 b60 apk bpk
  unfold samA samK at hs
  rw [g1, g2, Bool.true_and, Bool.true_and] at hs
  rw [hs] at S
  generalize decide (tkL la = tkL lb) = d at *
  replace S := hide S
  clear ha hb g1 g2 hs a60 apk b60 bpk
  go_enter Tryd.func88, Tryd.ntmps88
  go_wp2_with fail
  refine S.out.mono ?_
  rintro e w1 ⟨rfl, hb1⟩
  go_wp2
  go_ret3
  exact ⟨rfl, hb1⟩

set_option maxRecDepth 100000 in
set_option maxHeartbeats 8000000 in
theorem l4Transform_any {w : World} {aa ab : Option Addr} {ga ca gb cb : Nat} {la lb : List Pt} (ha : Pin w aa ga ca la) (hb : Pin w ab gb cb lb) (g1 : goodO la = true) (g2 : goodO lb = true) (hs : samA la lb = true) :
    Calls Tryd.prog 88 #[.slice aa la.length ca, .slice ab lb.length cb] w (TPost (stL (normL la)) (stL (normL lb)) w) := by
  obtain ⟨a60, apk, -, -⟩ := goodO_parts g1
  obtain ⟨b60, bpk, -, -⟩ := goodO_parts g2
  have S := l4Same_any ha hb a60 b60 apk bpk
  unfold samA samK at hs
  rw [g1, g2, Bool.true_and, Bool.true_and] at hs
  rw [hs] at S
  simp only [Bool.and_eq_true, decide_eq_true_eq] at hs
  rw [decide_eq_true hs.1] at S
  replace S := hide S
  have NA := hide (fun w1 (h : Below w.heap.size w w1) => l3Normal_any (ha.later h) a60 apk)
  have NB := hide (fun w1 (h : Below w.heap.size w w1) => l3Normal_any (hb.later h) b60 bpk)
  have QA := norm_gqs g1
  have QB := norm_gqs g2
  have hct : ctk (stL (normL la)) = ctk (stL (normL lb)) := by
    have e1 := (stL_sums _ (goodO_pk (norm_goodO g1).1)).1
    have e2 := (stL_sums _ (goodO_pk (norm_goodO g2).1)).1
    have e3 := (norm_goodO g1).2.1
    have e4 := (norm_goodO g2).2.1
    have := hs.1
    omega
  have C0 : Hid (TE (stL (normL la)) (stL (normL lb)) (normL la) (normL lb) [] [] 120) := hide ⟨by simp [stL], by simp [stL], QA.1, QB.1, none_gqs, none_gqs, by have := QA.2; have := QB.2; simp; omega, by have := QA.2; have := QB.2; simp; omega, hct⟩
  have ltw : 0 < w.heap.size := Nat.lt_of_le_of_lt (Nat.zero_le _) ha.lt
  have QS := hide (And.intro (And.intro (gqs_small QA.1) QA.2) (And.intro (gqs_small QB.1) QB.2))
  clear ha hb g1 g2 hs QA QB a60 apk b60 bpk hct
  generalize normL la = na at *
  generalize normL lb = nb at *
  generalize hX : stL na = X at *
  generalize hY : stL nb = Y at *
  clear hX hY
  go_enter Tryd.func88, Tryd.ntmps88
  go_wp2_with fail
  refine S.out.mono ?_
  rintro e w1 ⟨rfl, hb1⟩
  go_wp2_with fail
  refine (NA.out _ hb1).mono ?_
  rintro e w2 ⟨v1, rfl, oa, hb2⟩
  obtain ⟨aa', ga', ca', rfl, pa⟩ := own_pin0 oa (by have := hb1.size; have := hb2.size; omega) QS.out.1.1 (by have := QS.out.1.2; omega)
  have hs1 := hb1.size
  have hs2 := hb2.size
  have r1 := hide (rd_new (W := w2) pa.cap (fun k hk => pa.adr hk) pa.at' pa.lt 161)
  have la1 := pa.lt
  replace hb2 := hb1.trans (hb2.mono hb1.size)
  have hb3 : Below w.heap.size w (w2.alloc (.cells #[.slice aa' na.length ca'] 161)) := hb2.alloc hb2.size _
  clear hb1 oa pa S
  go_wp2_with fail
  refine (NB.out _ hb3).mono ?_
  rintro e w4 ⟨v2, rfl, ob, hb4⟩
  obtain ⟨ab', gb', cb', rfl, pb⟩ := own_pin0 ob (by have := hb3.size; have := hb4.size; omega) QS.out.2.1 (by have := QS.out.2.2; omega)
  have hs4 := hb4.size
  rw [World.size_alloc] at hs4
  have r2 : ∃ gy, Rd (w4.alloc (.cells #[.slice ab' nb.length cb'] 161)) w4.heap.size gy nb ∧ gy ≠ w2.heap.size ∧ gy < w4.heap.size := by
    by_cases hne : nb = []
    · exact ⟨0, rd_new pb.cap (fun k hk => by rw [hne] at hk; simp at hk) (fun j u hu => by rw [hne] at hu; simp [encP] at hu) (by omega) _, by omega, by omega⟩
    · have h1 := pb.ad hne
      subst h1
      have h2 := (ob.lt gb' rfl).1
      rw [World.size_alloc] at h2
      exact ⟨gb', rd_new pb.cap (fun k hk => pb.adr hk) pb.at' pb.lt _, by omega, pb.lt⟩
  obtain ⟨gy0, r2, hgy0, hgy1⟩ := r2
  have hb5 := hb3.trans (hb4.mono hb3.size)
  have r3 := (r1.out.up hb4).up ((Below.refl _ _).alloc (Nat.le_refl _) (.cells #[.slice ab' nb.length cb'] 161))
  have HR : Hid (TS w w2.heap.size w4.heap.size (w4.heap.size + 1) ga' gy0 na nb [] [] (.slice none 0 0) (.slice none 0 0) (w4.alloc (.cells #[.slice ab' nb.length cb'] 161))) :=
    hide ⟨r3, r2, World.ownsRow_nil _ _ _ _, World.ownsRow_nil _ _ _ _, ⟨(fun e => by cases e), (fun e => by cases e)⟩, ⟨(fun e => by cases e), (fun e => by cases e)⟩, (fun k e => by cases e), ⟨by omega, hgy0⟩, ⟨by omega, by omega, by omega, by omega, by omega⟩, hb5.alloc hb5.size _⟩
  clear r1 r2 r3 hb2 hb3 hb4 hb5 ob pb NA NB QS hgy0 hgy1
  go_wp2_with fail
  go_loopw [9, 10] (fun v u wr => ∃ v0 u0, v0 = v ∧ u0 = u ∧ ∃ gx gy lx ly PA PB, Hid (TS w w2.heap.size w4.heap.size (w4.heap.size + 1) gx gy lx ly PA PB v0 u0 wr) ∧ Hid (TE X Y lx ly PA PB 120)) (fun _ _ wr => rdLen wr w2.heap.size + rdLen wr w4.heap.size)
  case atStart => exact ⟨_, _, rfl, rfl, ga', gy0, na, nb, [], [], HR, C0⟩
  case round =>
    obtain ⟨va, vb, hv0, hu0, gx, gy, lx, ly, PA, PB, HS, HE⟩ := hrel
    subst hv0
    subst hu0
    have hsa := HE.out.sa
    have hsb := HE.out.sb
    have L0x := HS.out.rx.len
    have L0y := HS.out.ry.len
    obtain ⟨NLA, NA0⟩ := bd_of HE.out.gA (by omega)
    obtain ⟨NLB, NB0⟩ := bd_of HE.out.gB (by omega)
    have NA := hide NA0
    have NB := hide NB0
    clear HR C0 NA0 NB0
    cases lx with
    | nil =>
      cases ly with
      | nil =>
        go_wp2_with fail
        refine (done_nil HS.out.rx).mono ?_
        rintro e w' ⟨rfl, hw⟩
        replace hw := hw.symm; subst hw
        go_wp2_with fail
        refine (done_nil HS.out.ry).mono ?_
        rintro e w' ⟨rfl, hw⟩
        replace hw := hw.symm; subst hw
        have hE := HE.out
        have e1 : trA (prR X Y) = stL PA := by rw [hE.ea]; simp [stL, prR_nil, trA]
        have e2 : trB (prR X Y) = stL PB := by rw [hE.eb]; simp [stL, prR_nil, trB]
        have hOA := hide (POwn.mono HS.out.oa (by omega : w.heap.size ≤ w4.heap.size + 1))
        have hOB := hide (POwn.mono HS.out.ob (by omega : w.heap.size ≤ w4.heap.size + 1))
        have hbe := HS.out.be
        have hEA := hide (And.intro e1 (And.intro e2 (And.intro hE.gA hE.gB)))
        clear e1 e2 hE
        obtain ⟨aA, cA, hvA, -, -⟩ := own_shp HS.out.oa
        obtain ⟨aB, cB, hvB, -, -⟩ := own_shp HS.out.ob
        subst hvA
        subst hvB
        go_wp2
        go_ret3
        exact ⟨_, _, PA, PB, rfl, hEA.out.1, hEA.out.2.1, hEA.out.2.2.1, hEA.out.2.2.2, by simp at hsa; omega, by simp at hsb; omega, hOA.out, hOB.out, hbe⟩
      | cons q s =>
        have hq := HE.out.gy q (by simp)
        have bq := gqs_bd hq
        have hpn := te_ct0 HE.out
        simp only [List.length_cons, List.length_nil] at hsa hsb L0x L0y
        obtain ⟨oy, cpy, by_, hcy, ⟨cy0, cy1, cy2⟩, -, -⟩ := HS.out.ry.cons
        have e1 := emp_b q.put
        rw [decide_eq_false hpn] at e1
        go_wp2_with fail
        refine (done_nil HS.out.rx).mono ?_
        rintro e w' ⟨rfl, hw⟩
        replace hw := hw.symm; subst hw
        go_wp2_with fail
        refine (done_cons HS.out.ry).mono ?_
        rintro e w' ⟨rfl, hw⟩
        replace hw := hw.symm; subst hw
        go_wp2_with fail
        refine (done_nil HS.out.rx).mono ?_
        rintro e w' ⟨rfl, hw⟩
        replace hw := hw.symm; subst hw
        go_wp2_with fail
        refine (done_cons HS.out.ry).mono ?_
        rintro e w' ⟨rfl, hw⟩
        replace hw := hw.symm; subst hw
        go_wp2_with fail
        refine (size_any HS.out.ry bq.1 bq.2.1 bq.2.2).mono ?_
        rintro e w6 ⟨rfl, kk, hw⟩
        replace HS := hide (by have := HS.out.drewN kk; rw [← hw] at this; exact this)
        clear hw kk
        clear by_ cy0 cy1 cy2
        go_wp2_with fail
        refine ((by have := take_all HS.out.ry hq (by first | omega | (simp only [List.length_cons]; omega) | (simp only [List.length_nil]; omega) | (simp only [List.length_nil, List.length_cons]; omega)); unfold ptV at this; exact this : Calls Tryd.prog 106 _ _ _)).mono ?_
        rintro e w7 ⟨rfl, g7, hr, hg', hgr⟩
        have HT7 := hide (HS.out.takeY hr hg' hgr)
        have hX7 := heap_alloc_new w7 (.cells #[.int .i64 q.keep, .string q.put, .string q.drop] 79)
        replace HS := hide (HT7.out.up ((Below.refl _ _).alloc (Nat.le_refl _) (.cells #[.int .i64 q.keep, .string q.put, .string q.drop] 79)))
        clear hr hg' hgr
        obtain ⟨aA, cA, hvA, -, -⟩ := own_shp HS.out.oa
        obtain ⟨aB, cB, hvB, -, -⟩ := own_shp HS.out.ob
        subst hvA
        subst hvB
        have hBo : w4.heap.size + 1 ≤ (w7.alloc (.cells #[.int .i64 q.keep, .string q.put, .string q.drop] 79)).heap.size := by have := HT7.out.ry.lt; simp; omega
        obtain ⟨gk, CE1⟩ := te_putB HE.out noP_nil hpn
        have CE2 := hide CE1
        clear CE1
        obtain ⟨⟨pa0, pa1, pa2⟩, -⟩ := cells3_of hX7
        have AD := hide (l3Add_fr q HS.out.ob hBo (by omega) (fun q hq => NB.out q hq) (gqs_pk hq))
        unfold ptV at AD
        go_wp2_with fail
        refine AD.out.mono ?_
        rintro e w8 ⟨v8, rfl, ow2, fr2, loc2⟩
        have hb2 := (fr2.g.block w7.heap.size (by simp) (fun e => by have := (HT7.out.ob.lt _ e.symm).2; omega)).trans hX7
        obtain ⟨⟨pb0, pb1, pb2⟩, -⟩ := cells3_of hb2
        replace hBo : w4.heap.size + 1 ≤ w8.heap.size := Nat.le_trans hBo fr2.g.size
        replace HS := hide (HS.out.addB ow2 fr2 loc2)
        obtain ⟨aN, cN, hvN, -, -⟩ := own_shp HS.out.ob
        subst hvN
        clear AD ow2 fr2 loc2 pa0 pa1 pa2 hb2 hX7 HT7
        have AD := hide (l3Add_fr (kp q.put.size) HS.out.oa hBo (by omega) (fun q hq => NA.out q hq) (gqs_pk gk))
        rw [ptV_kp] at AD
        go_wp2_with fail
        refine AD.out.mono ?_
        rintro e w9 ⟨v9, rfl, ow2, fr2, loc2⟩
        replace HS := hide (HS.out.addA ow2 fr2 loc2)
        clear AD ow2 fr2 loc2 pb0 pb1 pb2
        go_wp2
        go_roundw
        case rel => exact ⟨v9, _, rfl, rfl, _, _, [], s, PA ++ [kp q.put.size], PB ++ [q], HS, CE2⟩
        case measure => rw [HS.out.rx.len, HS.out.ry.len, L0x, L0y]; first | omega | (simp only [List.length_cons]; omega) | (simp only [List.length_nil]; omega) | (simp only [List.length_nil, List.length_cons]; omega)
    | cons p r =>
      have hp := HE.out.gx p (by simp)
      have bp := gqs_bd hp
      simp only [List.length_cons] at hsa hsb L0x
      obtain ⟨ox, cpx, bx, hcx, ⟨cx0, cx1, cx2⟩, -, -⟩ := HS.out.rx.cons
      by_cases hpn : p.put.data.toList ≠ []
      · have e1 := emp_b p.put
        rw [decide_eq_false hpn] at e1
        go_wp2_with fail
        refine (done_cons HS.out.rx).mono ?_
        rintro e w' ⟨rfl, hw⟩
        replace hw := hw.symm; subst hw
        go_wp2_with fail
        refine (done_cons HS.out.rx).mono ?_
        rintro e w' ⟨rfl, hw⟩
        replace hw := hw.symm; subst hw
        go_wp2_with fail
        refine (size_any HS.out.rx bp.1 bp.2.1 bp.2.2).mono ?_
        rintro e w6 ⟨rfl, kk, hw⟩
        replace HS := hide (by have := HS.out.drewN kk; rw [← hw] at this; exact this)
        clear hw kk
        clear bx cx0 cx1 cx2
        go_wp2_with fail
        refine ((by have := take_all HS.out.rx hp (by first | omega | (simp only [List.length_cons]; omega) | (simp only [List.length_nil]; omega) | (simp only [List.length_nil, List.length_cons]; omega)); unfold ptV at this; exact this : Calls Tryd.prog 106 _ _ _)).mono ?_
        rintro e w7 ⟨rfl, g7, hr, hg', hgr⟩
        have HT7 := hide (HS.out.takeX hr hg' hgr)
        have hX7 := heap_alloc_new w7 (.cells #[.int .i64 p.keep, .string p.put, .string p.drop] 79)
        replace HS := hide (HT7.out.up ((Below.refl _ _).alloc (Nat.le_refl _) (.cells #[.int .i64 p.keep, .string p.put, .string p.drop] 79)))
        clear hr hg' hgr
        obtain ⟨aA, cA, hvA, -, -⟩ := own_shp HS.out.oa
        obtain ⟨aB, cB, hvB, -, -⟩ := own_shp HS.out.ob
        subst hvA
        subst hvB
        have hBo : w4.heap.size + 1 ≤ (w7.alloc (.cells #[.int .i64 p.keep, .string p.put, .string p.drop] 79)).heap.size := by have := HT7.out.ry.lt; simp; omega
        obtain ⟨gk, CE1⟩ := te_putA HE.out hpn
        have CE2 := hide CE1
        clear CE1
        obtain ⟨⟨pa0, pa1, pa2⟩, -⟩ := cells3_of hX7
        have AD := hide (l3Add_fr p HS.out.oa hBo (by omega) (fun q hq => NA.out q hq) (gqs_pk hp))
        unfold ptV at AD
        go_wp2_with fail
        refine AD.out.mono ?_
        rintro e w8 ⟨v8, rfl, ow2, fr2, loc2⟩
        have hb2 := (fr2.g.block w7.heap.size (by simp) (fun e => by have := (HT7.out.oa.lt _ e.symm).2; omega)).trans hX7
        obtain ⟨⟨pb0, pb1, pb2⟩, -⟩ := cells3_of hb2
        replace hBo : w4.heap.size + 1 ≤ w8.heap.size := Nat.le_trans hBo fr2.g.size
        replace HS := hide (HS.out.addA ow2 fr2 loc2)
        obtain ⟨aN, cN, hvN, -, -⟩ := own_shp HS.out.oa
        subst hvN
        clear AD ow2 fr2 loc2 pa0 pa1 pa2 hb2 hX7 HT7
        have AD := hide (l3Add_fr (kp p.put.size) HS.out.ob hBo (by omega) (fun q hq => NB.out q hq) (gqs_pk gk))
        rw [ptV_kp] at AD
        go_wp2_with fail
        refine AD.out.mono ?_
        rintro e w9 ⟨v9, rfl, ow2, fr2, loc2⟩
        replace HS := hide (HS.out.addB ow2 fr2 loc2)
        clear AD ow2 fr2 loc2 pb0 pb1 pb2
        go_wp2
        go_roundw
        case rel => exact ⟨_, v9, rfl, rfl, _, _, r, ly, PA ++ [p], PB ++ [kp p.put.size], HS, CE2⟩
        case measure => rw [HS.out.rx.len, HS.out.ry.len, L0x, L0y]; first | omega | (simp only [List.length_cons]; omega) | (simp only [List.length_nil]; omega) | (simp only [List.length_nil, List.length_cons]; omega)
      · replace hpn : p.put.data.toList = [] := Decidable.not_not.1 hpn
        have e1 := emp_b p.put
        rw [decide_eq_true hpn] at e1
        cases ly with
        | nil => exact absurd hpn (te_ct1 HE.out)
        | cons q s =>
          have hq := HE.out.gy q (by simp)
          have bq := gqs_bd hq
          simp only [List.length_cons] at hsa hsb L0y
          obtain ⟨oy, cpy, by_, hcy, ⟨cy0, cy1, cy2⟩, -, -⟩ := HS.out.ry.cons
          by_cases hqn : q.put.data.toList ≠ []
          · have e2 := emp_b q.put
            rw [decide_eq_false hqn] at e2
            go_wp2_with fail
            refine (done_cons HS.out.rx).mono ?_
            rintro e w' ⟨rfl, hw⟩
            replace hw := hw.symm; subst hw
            go_wp2_with fail
            refine (done_cons HS.out.rx).mono ?_
            rintro e w' ⟨rfl, hw⟩
            replace hw := hw.symm; subst hw
            go_wp2_with fail
            refine (done_cons HS.out.ry).mono ?_
            rintro e w' ⟨rfl, hw⟩
            replace hw := hw.symm; subst hw
            go_wp2_with fail
            refine (size_any HS.out.ry bq.1 bq.2.1 bq.2.2).mono ?_
            rintro e w6 ⟨rfl, kk, hw⟩
            replace HS := hide (by have := HS.out.drewN kk; rw [← hw] at this; exact this)
            clear hw kk
            clear bx cx0 cx1 cx2 by_ cy0 cy1 cy2
            go_wp2_with fail
            refine ((by have := take_all HS.out.ry hq (by first | omega | (simp only [List.length_cons]; omega) | (simp only [List.length_nil]; omega) | (simp only [List.length_nil, List.length_cons]; omega)); unfold ptV at this; exact this : Calls Tryd.prog 106 _ _ _)).mono ?_
            rintro e w7 ⟨rfl, g7, hr, hg', hgr⟩
            have HT7 := hide (HS.out.takeY hr hg' hgr)
            have hX7 := heap_alloc_new w7 (.cells #[.int .i64 q.keep, .string q.put, .string q.drop] 79)
            replace HS := hide (HT7.out.up ((Below.refl _ _).alloc (Nat.le_refl _) (.cells #[.int .i64 q.keep, .string q.put, .string q.drop] 79)))
            clear hr hg' hgr
            obtain ⟨aA, cA, hvA, -, -⟩ := own_shp HS.out.oa
            obtain ⟨aB, cB, hvB, -, -⟩ := own_shp HS.out.ob
            subst hvA
            subst hvB
            have hBo : w4.heap.size + 1 ≤ (w7.alloc (.cells #[.int .i64 q.keep, .string q.put, .string q.drop] 79)).heap.size := by have := HT7.out.ry.lt; simp; omega
            obtain ⟨gk, CE1⟩ := te_putB HE.out (noP_head hp hpn r) hqn
            have CE2 := hide CE1
            clear CE1
            obtain ⟨⟨pa0, pa1, pa2⟩, -⟩ := cells3_of hX7
            have AD := hide (l3Add_fr q HS.out.ob hBo (by omega) (fun q hq => NB.out q hq) (gqs_pk hq))
            unfold ptV at AD
            go_wp2_with fail
            refine AD.out.mono ?_
            rintro e w8 ⟨v8, rfl, ow2, fr2, loc2⟩
            have hb2 := (fr2.g.block w7.heap.size (by simp) (fun e => by have := (HT7.out.ob.lt _ e.symm).2; omega)).trans hX7
            obtain ⟨⟨pb0, pb1, pb2⟩, -⟩ := cells3_of hb2
            replace hBo : w4.heap.size + 1 ≤ w8.heap.size := Nat.le_trans hBo fr2.g.size
            replace HS := hide (HS.out.addB ow2 fr2 loc2)
            obtain ⟨aN, cN, hvN, -, -⟩ := own_shp HS.out.ob
            subst hvN
            clear AD ow2 fr2 loc2 pa0 pa1 pa2 hb2 hX7 HT7
            have AD := hide (l3Add_fr (kp q.put.size) HS.out.oa hBo (by omega) (fun q hq => NA.out q hq) (gqs_pk gk))
            rw [ptV_kp] at AD
            go_wp2_with fail
            refine AD.out.mono ?_
            rintro e w9 ⟨v9, rfl, ow2, fr2, loc2⟩
            replace HS := hide (HS.out.addA ow2 fr2 loc2)
            clear AD ow2 fr2 loc2 pb0 pb1 pb2
            go_wp2
            go_roundw
            case rel => exact ⟨v9, _, rfl, rfl, _, _, (p :: r), s, PA ++ [kp q.put.size], PB ++ [q], HS, CE2⟩
            case measure => rw [HS.out.rx.len, HS.out.ry.len, L0x, L0y]; first | omega | (simp only [List.length_cons]; omega) | (simp only [List.length_nil]; omega) | (simp only [List.length_nil, List.length_cons]; omega)
          · replace hqn : q.put.data.toList = [] := Decidable.not_not.1 hqn
            have e2 := emp_b q.put
            rw [decide_eq_true hqn] at e2
            have zp := psz_pos hp
            have zq := psz_pos hq
            have zp3 := hp.2
            have zq3 := hq.2
            obtain ⟨n, hn⟩ : ∃ n : Nat, (n : Int) = if psz q < psz p then psz q else psz p := ⟨(if psz q < psz p then psz q else psz p).toNat, by split <;> omega⟩
            have h0n : 0 < n := by split at hn <;> omega
            have hnp : (n : Int) ≤ psz p := by split at hn <;> omega
            have hnq : (n : Int) ≤ psz q := by split at hn <;> omega
            have hone : (n : Int) = psz p ∨ (n : Int) = psz q := by split at hn <;> omega
            obtain ⟨x1, x2, x3, -, -⟩ := cut_math hp h0n hnp r
            obtain ⟨y1, y2, y3, -, -⟩ := cut_math hq h0n hnq s
            have hlen : 1 + (restL p n r).length + (restL q n s).length ≤ (p :: r).length + (q :: s).length := by
              rw [rest_len, rest_len]
              simp only [List.length_cons]
              rcases hone with e | e
              · rw [if_pos e]; split <;> omega
              · rw [if_pos e]; split <;> omega
            have MT := hide (te_both HE.out ((cutA_kind hp n).2 hpn) ((cutA_kind hq n).2 hqn) x2 y2 (by rw [x3, y3]) (by rw [stL_cons]; exact x1) (by rw [stL_cons]; exact y1) (rest_g HE.out.gx h0n hnp) (rest_g HE.out.gy h0n hnq) hlen)
            have hx2 := hide x2
            have hy2 := hide y2
            clear x1 y1 x2 y2 x3 y3 hone
            have TX : Hid (∀ W g, Rd W w2.heap.size g (p :: r) → Calls Tryd.prog 106 #[.pointer (some ⟨w2.heap.size, 0, none⟩), .int .i64 (n : Int)] W fun e w' => e = .returned (.agg #[.int .i64 (cutA p n).keep, .string (cutA p n).put, .string (cutA p n).drop]) ∧ ∃ g', Rd w' w2.heap.size g' (restL p n r) ∧ (g' = g ∨ W.heap.size ≤ g') ∧ W.grownBy w' (some w2.heap.size)) := hide (fun W g h => take_gq h hp (by omega) h0n hnp)
            have TY : Hid (∀ W g, Rd W w4.heap.size g (q :: s) → Calls Tryd.prog 106 #[.pointer (some ⟨w4.heap.size, 0, none⟩), .int .i64 (n : Int)] W fun e w' => e = .returned (.agg #[.int .i64 (cutA q n).keep, .string (cutA q n).put, .string (cutA q n).drop]) ∧ ∃ g', Rd w' w4.heap.size g' (restL q n s) ∧ (g' = g ∨ W.heap.size ≤ g') ∧ W.grownBy w' (some w4.heap.size)) := hide (fun W g h => take_gq h hq (by omega) h0n hnq)
            have SX : Hid (∀ W g, Rd W w2.heap.size g (p :: r) → Calls Tryd.prog 107 #[.pointer (some ⟨w2.heap.size, 0, none⟩)] W fun e w' => e = .returned (.int .i64 (psz p)) ∧ ∃ k, w' = W.drewN k) := hide (fun W g h => size_any h bp.1 bp.2.1 bp.2.2)
            have SY : Hid (∀ W g, Rd W w4.heap.size g (q :: s) → Calls Tryd.prog 107 #[.pointer (some ⟨w4.heap.size, 0, none⟩)] W fun e w' => e = .returned (.int .i64 (psz q)) ∧ ∃ k, w' = W.drewN k) := hide (fun W g h => size_any h bq.1 bq.2.1 bq.2.2)
            clear hnp hnq h0n HE
            generalize cutA p n = p' at *
            generalize cutA q n = q' at *
            generalize restL p n r = rx at *
            generalize restL q n s = ry at *
            simp only [List.length_cons] at hlen
            by_cases hlt : psz q < psz p
            · skip
              rw [if_pos hlt] at hn
              rw [hn] at TX TY
              clear hn
              have dlt : decide (psz q < psz p) = true := decide_eq_true hlt
              go_wp2_with fail
              refine (done_cons HS.out.rx).mono ?_
              rintro e w' ⟨rfl, hw⟩
              replace hw := hw.symm; subst hw
              go_wp2_with fail
              refine (done_cons HS.out.rx).mono ?_
              rintro e w' ⟨rfl, hw⟩
              replace hw := hw.symm; subst hw
              go_wp2_with fail
              refine (done_cons HS.out.ry).mono ?_
              rintro e w' ⟨rfl, hw⟩
              replace hw := hw.symm; subst hw
              go_wp2_with fail
              refine (SX.out _ _ HS.out.rx).mono ?_
              rintro e wz ⟨rfl, kk, hw⟩
              replace HS := hide (by have := HS.out.drewN kk; rw [← hw] at this; exact this)
              clear hw kk
              clear bx cx0 cx1 cx2 by_ cy0 cy1 cy2
              go_wp2_with fail
              refine (SY.out _ _ HS.out.ry).mono ?_
              rintro e wz ⟨rfl, kk, hw⟩
              replace HS := hide (by have := HS.out.drewN kk; rw [← hw] at this; exact this)
              clear hw kk
              go_wp2_with fail
              refine (SY.out _ _ HS.out.ry).mono ?_
              rintro e wz ⟨rfl, kk, hw⟩
              replace HS := hide (by have := HS.out.drewN kk; rw [← hw] at this; exact this)
              clear hw kk
              go_wp2_with fail
              refine (TX.out _ _ HS.out.rx).mono ?_
              rintro e w6 ⟨rfl, g6, hr, hg', hgr⟩
              have HT6 := hide (HS.out.takeX hr hg' hgr)
              have hX6 := heap_alloc_new w6 (.cells #[.int .i64 p'.keep, .string p'.put, .string p'.drop] 79)
              replace HS := hide (HT6.out.up ((Below.refl _ _).alloc (Nat.le_refl _) (.cells #[.int .i64 p'.keep, .string p'.put, .string p'.drop] 79)))
              clear hr hg' hgr
              clear TX SX SY
              go_wp2_with fail
              refine (TY.out _ _ HS.out.ry).mono ?_
              rintro e w7 ⟨rfl, g7, hr, hg', hgr⟩
              have h5 : w4.heap.size < w6.heap.size := HT6.out.ry.lt.1
              have hP7 := (hgr.block w6.heap.size (by simp) (fun e => by have := Option.some.inj e; omega)).trans hX6
              have hs7 : w6.heap.size < w7.heap.size := by have := hgr.size; simp at this; omega
              have HT7 := hide (HS.out.takeY hr hg' hgr)
              have hX7 := heap_alloc_new w7 (.cells #[.int .i64 q'.keep, .string q'.put, .string q'.drop] 79)
              replace HS := hide (HT7.out.up ((Below.refl _ _).alloc (Nat.le_refl _) (.cells #[.int .i64 q'.keep, .string q'.put, .string q'.drop] 79)))
              have hP8 := (Below.heap_alloc w7 (.cells #[.int .i64 q'.keep, .string q'.put, .string q'.drop] 79) _ hs7).trans hP7
              have hBo : w4.heap.size + 1 ≤ (w7.alloc (.cells #[.int .i64 q'.keep, .string q'.put, .string q'.drop] 79)).heap.size := by simp; omega
              clear hr hg' hgr hP7 TY hX6 HT6
              obtain ⟨⟨pa0, pa1, pa2⟩, -⟩ := cells3_of hP8
              obtain ⟨⟨qa0, qa1, qa2⟩, -⟩ := cells3_of hX7
              obtain ⟨aA, cA, hvA, -, -⟩ := own_shp HS.out.oa
              obtain ⟨aB, cB, hvB, -, -⟩ := own_shp HS.out.ob
              subst hvA
              subst hvB
              by_cases hkp : 0 < p'.keep
              · have d1 : decide (0 < p'.keep) = true := decide_eq_true hkp
                by_cases hkq : 0 < q'.keep
                · have d2 : decide (0 < q'.keep) = true := decide_eq_true hkq
                  have CE2 := hide (MT.out.1 (by omega) (by omega))
                  have AD := hide (l3Add_fr p' HS.out.oa hBo (by omega) (fun q hq => NA.out q hq) (gqs_pk hx2.out))
                  unfold ptV at AD
                  go_wp2_with fail
                  refine AD.out.mono ?_
                  rintro e w8 ⟨v8, rfl, ow2, fr2, loc2⟩
                  have hb2 := (fr2.g.block w7.heap.size (by simp) (fun e => by have := (HT7.out.oa.lt _ e.symm).2; omega)).trans hX7
                  obtain ⟨⟨qb0, qb1, qb2⟩, -⟩ := cells3_of hb2
                  replace hBo : w4.heap.size + 1 ≤ w8.heap.size := Nat.le_trans hBo fr2.g.size
                  replace HS := hide (HS.out.addA ow2 fr2 loc2)
                  obtain ⟨aN, cN, hvN, -, -⟩ := own_shp HS.out.oa
                  subst hvN
                  clear AD ow2 fr2 loc2 pa0 pa1 pa2 qa0 qa1 qa2 hb2
                  have AD := hide (l3Add_fr q' HS.out.ob hBo (by omega) (fun q hq => NB.out q hq) (gqs_pk hy2.out))
                  unfold ptV at AD
                  go_wp2_with fail
                  refine AD.out.mono ?_
                  rintro e w9 ⟨v9, rfl, ow2, fr2, loc2⟩
                  replace HS := hide (HS.out.addB ow2 fr2 loc2)
                  clear AD ow2 fr2 loc2 qb0 qb1 qb2
                  go_wp2
                  go_roundw
                  case rel => exact ⟨_, v9, rfl, rfl, _, _, rx, ry, PA ++ [p'], PB ++ [q'], HS, CE2⟩
                  case measure => rw [HS.out.rx.len, HS.out.ry.len, L0x, L0y]; first | omega | (simp only [List.length_cons]; omega) | (simp only [List.length_nil]; omega) | (simp only [List.length_nil, List.length_cons]; omega)
                · have d2 : decide (0 < q'.keep) = false := decide_eq_false hkq
                  have CE2 := hide (MT.out.2.1 (by omega) (by omega))
                  have AD := hide (l3Add_fr q' HS.out.ob hBo (by omega) (fun q hq => NB.out q hq) (gqs_pk hy2.out))
                  unfold ptV at AD
                  go_wp2_with fail
                  refine AD.out.mono ?_
                  rintro e w8 ⟨v8, rfl, ow2, fr2, loc2⟩
                  replace HS := hide (HS.out.addB ow2 fr2 loc2)
                  clear AD ow2 fr2 loc2 pa0 pa1 pa2 qa0 qa1 qa2
                  go_wp2
                  go_roundw
                  case rel => exact ⟨_, v8, rfl, rfl, _, _, rx, ry, PA, PB ++ [q'], HS, CE2⟩
                  case measure => rw [HS.out.rx.len, HS.out.ry.len, L0x, L0y]; first | omega | (simp only [List.length_cons]; omega) | (simp only [List.length_nil]; omega) | (simp only [List.length_nil, List.length_cons]; omega)
              · have d1 : decide (0 < p'.keep) = false := decide_eq_false hkp
                by_cases hkq : 0 < q'.keep
                · have d2 : decide (0 < q'.keep) = true := decide_eq_true hkq
                  have CE2 := hide (MT.out.2.2.1 (by omega) (by omega))
                  have AD := hide (l3Add_fr p' HS.out.oa hBo (by omega) (fun q hq => NA.out q hq) (gqs_pk hx2.out))
                  unfold ptV at AD
                  go_wp2_with fail
                  refine AD.out.mono ?_
                  rintro e w8 ⟨v8, rfl, ow2, fr2, loc2⟩
                  replace HS := hide (HS.out.addA ow2 fr2 loc2)
                  clear AD ow2 fr2 loc2 pa0 pa1 pa2 qa0 qa1 qa2
                  go_wp2
                  go_roundw
                  case rel => exact ⟨v8, _, rfl, rfl, _, _, rx, ry, PA ++ [p'], PB, HS, CE2⟩
                  case measure => rw [HS.out.rx.len, HS.out.ry.len, L0x, L0y]; first | omega | (simp only [List.length_cons]; omega) | (simp only [List.length_nil]; omega) | (simp only [List.length_nil, List.length_cons]; omega)
                · have d2 : decide (0 < q'.keep) = false := decide_eq_false hkq
                  have CE2 := hide (MT.out.2.2.2 (by omega) (by omega))
                  go_wp2
                  go_roundw
                  case rel => exact ⟨_, _, rfl, rfl, _, _, rx, ry, PA, PB, HS, CE2⟩
                  case measure => rw [HS.out.rx.len, HS.out.ry.len, L0x, L0y]; first | omega | (simp only [List.length_cons]; omega) | (simp only [List.length_nil]; omega) | (simp only [List.length_nil, List.length_cons]; omega)
            · skip
              rw [if_neg hlt] at hn
              rw [hn] at TX TY
              clear hn
              have dlt : decide (psz q < psz p) = false := decide_eq_false hlt
              replace hlt : psz p ≤ psz q := by omega
              go_wp2_with fail
              refine (done_cons HS.out.rx).mono ?_
              rintro e w' ⟨rfl, hw⟩
              replace hw := hw.symm; subst hw
              go_wp2_with fail
              refine (done_cons HS.out.rx).mono ?_
              rintro e w' ⟨rfl, hw⟩
              replace hw := hw.symm; subst hw
              go_wp2_with fail
              refine (done_cons HS.out.ry).mono ?_
              rintro e w' ⟨rfl, hw⟩
              replace hw := hw.symm; subst hw
              go_wp2_with fail
              refine (SX.out _ _ HS.out.rx).mono ?_
              rintro e wz ⟨rfl, kk, hw⟩
              replace HS := hide (by have := HS.out.drewN kk; rw [← hw] at this; exact this)
              clear hw kk
              clear bx cx0 cx1 cx2 by_ cy0 cy1 cy2
              go_wp2_with fail
              refine (SY.out _ _ HS.out.ry).mono ?_
              rintro e wz ⟨rfl, kk, hw⟩
              replace HS := hide (by have := HS.out.drewN kk; rw [← hw] at this; exact this)
              clear hw kk
              go_wp2_with fail
              refine (TX.out _ _ HS.out.rx).mono ?_
              rintro e w6 ⟨rfl, g6, hr, hg', hgr⟩
              have HT6 := hide (HS.out.takeX hr hg' hgr)
              have hX6 := heap_alloc_new w6 (.cells #[.int .i64 p'.keep, .string p'.put, .string p'.drop] 79)
              replace HS := hide (HT6.out.up ((Below.refl _ _).alloc (Nat.le_refl _) (.cells #[.int .i64 p'.keep, .string p'.put, .string p'.drop] 79)))
              clear hr hg' hgr
              clear TX SX SY
              go_wp2_with fail
              refine (TY.out _ _ HS.out.ry).mono ?_
              rintro e w7 ⟨rfl, g7, hr, hg', hgr⟩
              have h5 : w4.heap.size < w6.heap.size := HT6.out.ry.lt.1
              have hP7 := (hgr.block w6.heap.size (by simp) (fun e => by have := Option.some.inj e; omega)).trans hX6
              have hs7 : w6.heap.size < w7.heap.size := by have := hgr.size; simp at this; omega
              have HT7 := hide (HS.out.takeY hr hg' hgr)
              have hX7 := heap_alloc_new w7 (.cells #[.int .i64 q'.keep, .string q'.put, .string q'.drop] 79)
              replace HS := hide (HT7.out.up ((Below.refl _ _).alloc (Nat.le_refl _) (.cells #[.int .i64 q'.keep, .string q'.put, .string q'.drop] 79)))
              have hP8 := (Below.heap_alloc w7 (.cells #[.int .i64 q'.keep, .string q'.put, .string q'.drop] 79) _ hs7).trans hP7
              have hBo : w4.heap.size + 1 ≤ (w7.alloc (.cells #[.int .i64 q'.keep, .string q'.put, .string q'.drop] 79)).heap.size := by simp; omega
              clear hr hg' hgr hP7 TY hX6 HT6
              obtain ⟨⟨pa0, pa1, pa2⟩, -⟩ := cells3_of hP8
              obtain ⟨⟨qa0, qa1, qa2⟩, -⟩ := cells3_of hX7
              obtain ⟨aA, cA, hvA, -, -⟩ := own_shp HS.out.oa
              obtain ⟨aB, cB, hvB, -, -⟩ := own_shp HS.out.ob
              subst hvA
              subst hvB
              by_cases hkp : 0 < p'.keep
              · have d1 : decide (0 < p'.keep) = true := decide_eq_true hkp
                by_cases hkq : 0 < q'.keep
                · have d2 : decide (0 < q'.keep) = true := decide_eq_true hkq
                  have CE2 := hide (MT.out.1 (by omega) (by omega))
                  have AD := hide (l3Add_fr p' HS.out.oa hBo (by omega) (fun q hq => NA.out q hq) (gqs_pk hx2.out))
                  unfold ptV at AD
                  go_wp2_with fail
                  refine AD.out.mono ?_
                  rintro e w8 ⟨v8, rfl, ow2, fr2, loc2⟩
                  have hb2 := (fr2.g.block w7.heap.size (by simp) (fun e => by have := (HT7.out.oa.lt _ e.symm).2; omega)).trans hX7
                  obtain ⟨⟨qb0, qb1, qb2⟩, -⟩ := cells3_of hb2
                  replace hBo : w4.heap.size + 1 ≤ w8.heap.size := Nat.le_trans hBo fr2.g.size
                  replace HS := hide (HS.out.addA ow2 fr2 loc2)
                  obtain ⟨aN, cN, hvN, -, -⟩ := own_shp HS.out.oa
                  subst hvN
                  clear AD ow2 fr2 loc2 pa0 pa1 pa2 qa0 qa1 qa2 hb2
                  have AD := hide (l3Add_fr q' HS.out.ob hBo (by omega) (fun q hq => NB.out q hq) (gqs_pk hy2.out))
                  unfold ptV at AD
                  go_wp2_with fail
                  refine AD.out.mono ?_
                  rintro e w9 ⟨v9, rfl, ow2, fr2, loc2⟩
                  replace HS := hide (HS.out.addB ow2 fr2 loc2)
                  clear AD ow2 fr2 loc2 qb0 qb1 qb2
                  go_wp2
                  go_roundw
                  case rel => exact ⟨_, v9, rfl, rfl, _, _, rx, ry, PA ++ [p'], PB ++ [q'], HS, CE2⟩
                  case measure => rw [HS.out.rx.len, HS.out.ry.len, L0x, L0y]; first | omega | (simp only [List.length_cons]; omega) | (simp only [List.length_nil]; omega) | (simp only [List.length_nil, List.length_cons]; omega)
                · have d2 : decide (0 < q'.keep) = false := decide_eq_false hkq
                  have CE2 := hide (MT.out.2.1 (by omega) (by omega))
                  have AD := hide (l3Add_fr q' HS.out.ob hBo (by omega) (fun q hq => NB.out q hq) (gqs_pk hy2.out))
                  unfold ptV at AD
                  go_wp2_with fail
                  refine AD.out.mono ?_
                  rintro e w8 ⟨v8, rfl, ow2, fr2, loc2⟩
                  replace HS := hide (HS.out.addB ow2 fr2 loc2)
                  clear AD ow2 fr2 loc2 pa0 pa1 pa2 qa0 qa1 qa2
                  go_wp2
                  go_roundw
                  case rel => exact ⟨_, v8, rfl, rfl, _, _, rx, ry, PA, PB ++ [q'], HS, CE2⟩
                  case measure => rw [HS.out.rx.len, HS.out.ry.len, L0x, L0y]; first | omega | (simp only [List.length_cons]; omega) | (simp only [List.length_nil]; omega) | (simp only [List.length_nil, List.length_cons]; omega)
              · have d1 : decide (0 < p'.keep) = false := decide_eq_false hkp
                by_cases hkq : 0 < q'.keep
                · have d2 : decide (0 < q'.keep) = true := decide_eq_true hkq
                  have CE2 := hide (MT.out.2.2.1 (by omega) (by omega))
                  have AD := hide (l3Add_fr p' HS.out.oa hBo (by omega) (fun q hq => NA.out q hq) (gqs_pk hx2.out))
                  unfold ptV at AD
                  go_wp2_with fail
                  refine AD.out.mono ?_
                  rintro e w8 ⟨v8, rfl, ow2, fr2, loc2⟩
                  replace HS := hide (HS.out.addA ow2 fr2 loc2)
                  clear AD ow2 fr2 loc2 pa0 pa1 pa2 qa0 qa1 qa2
                  go_wp2
                  go_roundw
                  case rel => exact ⟨v8, _, rfl, rfl, _, _, rx, ry, PA ++ [p'], PB, HS, CE2⟩
                  case measure => rw [HS.out.rx.len, HS.out.ry.len, L0x, L0y]; first | omega | (simp only [List.length_cons]; omega) | (simp only [List.length_nil]; omega) | (simp only [List.length_nil, List.length_cons]; omega)
                · have d2 : decide (0 < q'.keep) = false := decide_eq_false hkq
                  have CE2 := hide (MT.out.2.2.2 (by omega) (by omega))
                  go_wp2
                  go_roundw
                  case rel => exact ⟨_, _, rfl, rfl, _, _, rx, ry, PA, PB, HS, CE2⟩
                  case measure => rw [HS.out.rx.len, HS.out.ry.len, L0x, L0y]; first | omega | (simp only [List.length_cons]; omega) | (simp only [List.length_nil]; omega) | (simp only [List.length_nil, List.length_cons]; omega)
end Go.Proofs.YtbooongkbninhaaDoor
