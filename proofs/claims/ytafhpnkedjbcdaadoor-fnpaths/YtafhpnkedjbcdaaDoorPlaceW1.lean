/- The contracts of slices.Equal over ints and of impl.PlaceOf. -/
import Derived.Test.YtafhpnkedjbcdaaDoorInts1
import Derived.Test.YtafhpnkedjbcdaaDoorPathM
import Derived.Test.YtafhpnkedjbcdaaDoorPathWM
namespace Go.Proofs.YtafhpnkedjbcdaaDoor
open Go.RowKit
open Doc1

theorem take_eq_step {la lb : List Int} {k : Nat} (h : la.take k = lb.take k) (ha : k < la.length) (hb : k < lb.length) (e : la[k] = lb[k]) : la.take (k + 1) = lb.take (k + 1) := by
  rw [List.take_succ_eq_append_getElem ha, List.take_succ_eq_append_getElem hb, h, e]
theorem list_ne_at {la lb : List Int} {k : Nat} (ha : k < la.length) (hb : k < lb.length) (e : la[k] ≠ lb[k]) : la ≠ lb := by
  rintro rfl; exact e rfl
set_option maxHeartbeats 1000000 in
theorem equal_any (ga gb ca cb : Nat) (la lb : List Int) (w : World) (hma : la.length ≤ 10000000) (_h1 : la.length ≤ ca ∧ ca ≤ maxLen) (_h2 : lb.length ≤ cb ∧ cb ≤ maxLen) (ha : IAt w ga la) (hb : IAt w gb lb) (hga : ga < w.heap.size) (hgb : gb < w.heap.size) (_hmb : lb.length ≤ 10000000) :
    Calls Tryd.prog 88 #[.slice (some ⟨ga, 0, none⟩) la.length ca, .slice (some ⟨gb, 0, none⟩) lb.length cb] w fun e w' => e = .returned (.bool (decide (la = lb))) ∧ Below w.heap.size w w' := by
  by_cases hl : la.length = lb.length
  · go_enter Tryd.func88, Tryd.ntmps88
    go_wp2
    go_loopw [13] (fun i wr => ∃ k : Nat, k ≤ la.length ∧ i = .int .i64 k ∧ Hid (la.take k = lb.take k) ∧ Below w.heap.size w wr) (fun i _ => la.length - (intOf i).toNat)
    case atStart => exact ⟨0, by omega, rfl, hide rfl, Below.refl _ _⟩
    case round =>
      obtain ⟨k, hk, rfl, hp, hbel⟩ := hrel
      by_cases hlt : k < la.length
      · have hltb : k < lb.length := by omega
        have a0 := ha.later hbel hga k hlt
        have b0 := hb.later hbel hgb k hltb
        have Hs := hide (fun e => take_eq_step hp.out hlt hltb e)
        have Hn := hide (fun e => list_ne_at hlt hltb e)
        by_cases e : la[k] = lb[k]
        · have e1 : (la[k] != lb[k]) = false := by simp [e]
          have He := hide e
          clear ha hb e
          go_wp2
          go_quiet (fail)
          go_wp2
          go_roundw
          case rel => exact ⟨k + 1, by omega, by go_num, hide (Hs.out He.out), hbel.trans ⟨rfl, rfl, rfl, Nat.le_refl _, fun _ _ => rfl⟩⟩
          case measure => simp [intOf]; omega
        · have e1 : (la[k] != lb[k]) = true := by simp [e]
          have He := hide e
          clear ha hb e
          go_wp2
          go_quiet (fail)
          go_wp2
          go_ret
          exact ⟨ret_bool (decide_eq_false (Hn.out He.out)).symm, hbel.trans ⟨rfl, rfl, rfl, Nat.le_refl _, fun _ _ => rfl⟩⟩
      · obtain rfl : k = la.length := by omega
        have E : la = lb := by
          have := hp.out
          rw [List.take_length, hl, List.take_length] at this
          exact this
        have HE := hide E
        clear ha hb E
        go_wp2
        go_ret
        exact ⟨ret_bool (decide_eq_true HE.out).symm, hbel⟩
  · have Hne : Hid (la ≠ lb) := hide (fun e => hl (by rw [e]))
    clear ha hb
    go_enter Tryd.func88, Tryd.ntmps88
    go_wp2
    go_ret
    exact ⟨ret_bool (decide_eq_false Hne.out).symm, Below.refl _ _⟩

/-- Where a path leads. -/
structure Leads (s : ByteArray) (p : List Int) (fo : Option Nat) : Prop where
  le : ∀ n, fo = some n → n ≤ s.size
  is : ∀ k, k ≤ s.size → (path s.data.toList k = p ↔ fo = some k)
theorem leads_ex (s : ByteArray) (hd : doc s.data.toList = true) (p : List Int) : ∃ fo, Leads s p fo := by
  by_cases h : ∃ n, n ≤ s.size ∧ path s.data.toList n = p
  · obtain ⟨n, hn, hp⟩ := h
    refine ⟨some n, ⟨?_, ?_⟩⟩
    · intro m hm; cases hm; exact hn
    · intro k hk
      constructor
      · intro e; rw [path_inj s.size s (Nat.le_refl _) hd k n hk hn (by rw [e, hp])]
      · intro e; cases e; exact hp
  · refine ⟨none, ⟨?_, ?_⟩⟩
    · intro m hm; cases hm
    · intro k hk
      constructor
      · intro e; exact absurd ⟨k, hk, e⟩ h
      · intro e; cases e
theorem path_le (s : ByteArray) (k : Nat) (hk : k ≤ s.size) : (path s.data.toList k).length ≤ k + 1 := by
  have := path_len (W s.data.toList k) k
  have h2 := (W_bd s k hk).2.2
  unfold path; omega

set_option maxHeartbeats 2000000 in
theorem placeI_yes (s : ByteArray) (p : List Int) (gp cp : Nat) (fo : Option Nat) (w : World) (hs : s.size ≤ 1048576) (hT : Tab w) (hd : doc s.data.toList = true) (hf : Leads s p fo) (hp : IAt w gp p) (hgp : gp < w.heap.size) (hpl : p.length ≤ 2000000) (hcp : p.length ≤ cp ∧ cp ≤ maxLen) :
    Calls Tryd.prog 40 #[.string s, .slice (some ⟨gp, 0, none⟩) p.length cp] w fun e w' => e = .returned (.tuple #[.int .i64 (fo.getD 0 : Nat), .bool fo.isSome]) ∧ Below w.heap.size w w' := by
  have hs3 : s.size ≤ 300 := by
    unfold doc good at hd
    simp only [Bool.and_eq_true, decide_eq_true_eq] at hd
    have := hd.1.2
    simpa using this
  have hTl := hT.lt
  have G := goodDocI_any s w hs hT
  rw [hd] at G
  replace G := hide G
  have Hd := hide hd
  have Hp := hide hp
  have Hf := hide hf
  clear hd hp hf
  go_enter Tryd.func40, Tryd.ntmps40
  go_wp2_with (go_at_call 14; refine G.out.mono ?_; rintro e w1 ⟨rfl, hb1⟩)
  clear G
  go_loopw [10] (fun _ wr => ∃ (k : Nat) (v : Value), k ≤ s.size ∧ Hid (∀ n, fo = some n → k ≤ n) ∧ WkAt w.heap.size w1.heap.size v (W s.data.toList k) k wr ∧ Below w.heap.size w wr) (fun _ wr => s.size - (intOf ((wr.cell? ⟨w1.heap.size, 0, none⟩).getD undef)).toNat)
  case atStart =>
    exact ⟨0, _, Nat.zero_le _, hide (fun _ _ => Nat.zero_le _), ⟨by rw [World.cell?_alloc_at _ _ _ _ rfl]; rfl, by rw [World.cell?_alloc_at _ _ _ _ rfl]; rfl, by rw [World.cell?_alloc_at _ _ _ _ rfl]; rfl, fun j => World.frozen?_alloc_new _ _ _ _, World.ownsRow_nil _ _ _ _, by simp [Value.ownBlock], hb1.size⟩, hb1.alloc hb1.size _⟩
  case round =>
    obtain ⟨k, v, hk, hmin, hat, hbel⟩ := hrel
    obtain ⟨b1, b2, b3⟩ := W_bd s k hk
    have Pa := hide (path_any _ _ v _ k wr hat (by omega) (by omega) (fun x hx => by have := b2 x hx; omega))
    have Hat := hide hat
    have lg : w1.heap.size < wr.heap.size := World.block_lt_of_cell? wr _ hat.c0
    clear hat b1 b2 b3
    go_wp2_with fail
    refine Pa.out.mono ?_
    rintro e w2 ⟨v2, rfl, hown, hb2⟩
    obtain ⟨g2, c2, rfl, q1, q2, q3, q4, n2, -⟩ := ints_shape hown (path_ne s.data.toList k)
    have hBw := hbel.trans (hb2.mono hbel.size)
    have p2 := Hp.out.later hBw hgp
    have hsz2 := hBw.size
    have hpl2 := path_le s k hk
    have Eq := hide (equal_any g2 gp c2 cp (path s.data.toList k) p w2 (by omega) ⟨q1, q2⟩ hcp n2 p2 q4 (by omega) (by omega))
    have Lk := hide (Hf.out.is k hk)
    clear hown n2 p2 Pa
    by_cases he : path s.data.toList k = p
    · have hfo := Lk.out.1 he
      rw [decide_eq_true he] at Eq
      have Hfo := hide hfo
      have lgB := lg
      clear he hfo
      go_wp2_with fail
      refine Eq.out.mono ?_
      rintro e w3 ⟨rfl, hb3⟩
      have hB3 := hBw.trans (hb3.mono hBw.size)
      have d0 : w3.cell? ⟨w1.heap.size, 0, none⟩ = some (.int .i64 (k : Int)) := (World.cell?_of_block (a := ⟨w1.heap.size, 0, none⟩) ((hb3.block w1.heap.size (by have := hb2.size; omega)).trans (hb2.block w1.heap.size lg))).trans Hat.out.c0
      go_wp2
      go_ret2
      rw [Hfo.out]
      exact ⟨rfl, hB3⟩
    · have hfo : fo ≠ some k := fun e => he (Lk.out.2 e)
      rw [decide_eq_false he] at Eq
      have Hfo := hide hfo
      clear he hfo
      go_wp2_with fail
      refine Eq.out.mono ?_
      rintro e w3 ⟨rfl, hb3⟩
      have hb23 := hb2.trans (hb3.mono hb2.size)
      have hB3 := hbel.trans (hb23.mono hbel.size)
      have hat3 : WkAt w.heap.size w1.heap.size v (W s.data.toList k) k w3 := ⟨(World.cell?_of_block (hb23.block _ lg)).trans Hat.out.c0, (World.cell?_of_block (hb23.block _ lg)).trans Hat.out.c1, (World.cell?_of_block (hb23.block _ lg)).trans Hat.out.c2, fun j => (World.frozen?_of_block (hb23.block _ lg)).trans (Hat.out.fz j), own_below Hat.out.own hb23, Hat.out.ne, Hat.out.le⟩
      have d0 := hat3.c0
      by_cases hks : k < s.size
      · have hk0 : ((k : Int) == (s.size : Int)) = false := by simp; omega
        have St := hide (step_any s Hd.out hs3 _ _ v k w3 hks hat3 hB3.size (hT.low hB3 hTl) hTl)
        have HC := hide Hat.out.c0
        clear hat3 Hat
        go_wp2_with fail
        refine St.out.mono ?_
        rintro e w4 ⟨rfl, ⟨v4, hat4⟩, hb4⟩
        have HD := hide hat4.c0
        have hmin' : Hid (∀ n, fo = some n → k + 1 ≤ n) := hide (fun n hn => by have h1 := hmin.out n hn; have h2 : n ≠ k := (by rintro rfl; exact Hfo.out hn); omega)
        go_wp2
        go_roundw
        case rel => exact ⟨k + 1, v4, by omega, hmin', hat4, hB3.trans hb4⟩
        case measure => rw [HD.out, HC.out]; simp [intOf]; omega
      · obtain rfl : k = s.size := by omega
        have hno : fo = none := by
          cases h : fo with
          | none => rfl
          | some n =>
            have h1 := hmin.out n h
            have h2 := Hf.out.le n h
            obtain rfl : n = s.size := by omega
            exact absurd h Hfo.out
        have Hno := hide hno
        clear hat3 Hat hno
        go_wp2
        go_ret2
        rw [Hno.out]
        exact ⟨rfl, hB3⟩
end Go.Proofs.YtafhpnkedjbcdaaDoor
