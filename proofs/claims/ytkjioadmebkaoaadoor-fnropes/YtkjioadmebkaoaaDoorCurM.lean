/- The plain mathematics of the numbers that are drawn: a round that goes no further is followed, soon enough, by one that does. The drawing cursor, told exactly where the code is read to its end: the numbers are those of Lcg1. The drawing of a change of a text: how far it is to the next round that goes further. -/
import Derived.Test.YtkjioadmebkaoaaDoorPlain
import Derived.Test.YtkjioadmebkaoaaDoorDrawM
import Derived.Test.YtkjioadmebkaoaaDoorPlain2
namespace Go.Proofs.YtkjioadmebkaoaaDoor.Doc1

/-- One number more, and three of them: a round that goes no further takes three. -/
def lT (x : Nat) : Nat := (x * 6364136223846793005 + 1442695040888963407) % 18446744073709551616
def lG (x : Nat) : Nat := lT (lT (lT x))
def itN (f : Nat → Nat) : Nat → Nat → Nat
  | 0, x => x
  | n + 1, x => itN f n (f x)
theorem itN_add (f : Nat → Nat) (m : Nat) : ∀ (n x : Nat), itN f (n + m) x = itN f m (itN f n x)
  | 0, x => by rw [Nat.zero_add]; rfl
  | n + 1, x => by rw [Nat.succ_add]; exact itN_add f m n (f x)
theorem aff_sub {M a b : Nat} (A C : Nat) (h : a % M = b % M) : (A * a + C) % M = (A * b + C) % M := by
  rw [Nat.add_mod, Nat.mul_mod, h, ← Nat.mul_mod, ← Nat.add_mod]
theorem aff_comp (M A C B E x : Nat) : (A * ((B * x + E) % M) + C) % M = ((A * B % M) * x + (A * E + C) % M) % M := by
  have e2 : A * (B * x + E) + C = A * B * x + (A * E + C) := by rw [Nat.mul_add, ← Nat.mul_assoc, Nat.add_assoc]
  have e3 : ((A * B % M) * x + (A * E + C) % M) % M = (A * B * x + (A * E + C)) % M := by
    rw [Nat.add_mod, Nat.mod_mod, Nat.mul_mod (A * B % M), Nat.mod_mod, ← Nat.mul_mod, ← Nat.add_mod]
  rw [aff_sub A C (Nat.mod_mod (B * x + E) M), e2, e3]
theorem lT_mod (x : Nat) : lT x % 4398046511104 = (6364136223846793005 * x + 1442695040888963407) % 4398046511104 := by
  unfold lT
  rw [Nat.mod_mod_of_dvd _ (by decide), Nat.mul_comm]
/-- The steps of a power of two rounds, by doubling. -/
def dblN (M : Nat) (p : Nat × Nat) : Nat × Nat := (p.1 * p.1 % M, (p.1 * p.2 + p.2) % M)
def pwN (M : Nat) (p : Nat × Nat) : Nat → Nat × Nat
  | 0 => p
  | k + 1 => dblN M (pwN M p k)
theorem lG_mod (x : Nat) : lG x % 4398046511104 = (1610380290293 * x + 146808144153) % 4398046511104 := by
  unfold lG
  have h1 := lT_mod x
  have h2 := lT_mod (lT x)
  have h3 := lT_mod (lT (lT x))
  generalize lT (lT (lT x)) = w at *
  generalize lT (lT x) = z at *
  generalize lT x = y at *
  omega
theorem itN_dbl {M : Nat} {f : Nat → Nat} {n : Nat} {p : Nat × Nat} (h : ∀ x, itN f n x % M = (p.1 * x + p.2) % M) (x : Nat) : itN f (n + n) x % M = ((dblN M p).1 * x + (dblN M p).2) % M := by
  rw [itN_add, h, aff_sub p.1 p.2 (show itN f n x % M = ((p.1 * x + p.2) % M) % M by rw [h, Nat.mod_mod]), aff_comp]
  rfl
theorem itN_pw {M : Nat} {f : Nat → Nat} {p : Nat × Nat} (h0 : ∀ x, f x % M = (p.1 * x + p.2) % M) : ∀ (k x : Nat), itN f (2 ^ k) x % M = ((pwN M p k).1 * x + (pwN M p k).2) % M
  | 0, x => h0 x
  | k + 1, x => by
    rw [Nat.pow_succ, Nat.mul_two]
    exact itN_dbl (p := pwN M p k) (itN_pw h0 k) x
theorem pw30 : pwN 4398046511104 (1610380290293, 146808144153) 30 = (2796023709697, 290984034304) := by decide +kernel
/-- By how much the upper bits turn in 2^30 rounds: it hangs on the lowest ten bits alone. -/
def turn (L : Nat) : Nat := (2604 * L + 271) % 4096
theorem it30 (N : Nat) (hN : N = 2 ^ 30) (x : Nat) : itN lG N x % 4398046511104 = (x + 1073741824 * turn (x % 1024)) % 4398046511104 := by
  have h := itN_pw (p := (1610380290293, 146808144153)) lG_mod 30 x
  rw [← hN, pw30] at h
  rw [h]
  unfold turn
  clear h hN
  show (2796023709697 * x + 290984034304) % 4398046511104 = _
  omega
/-- Bits 40 and 41 are not for ever those of a put, if the turn is neither small nor nearly whole. -/
theorem turn_out {N : Nat} (hN : N = 2 ^ 30) {x : Nat} (h1 : 128 ≤ turn (x % 1024)) (h2 : turn (x % 1024) ≤ 3968) : ∃ m, m ≤ 8 ∧ itN lG (m * N) x / 1099511627776 % 4 ≠ 1 := by
  have st : ∀ y, y % 1024 = x % 1024 → itN lG N y % 1024 = x % 1024 ∧ (itN lG N y / 1073741824) % 4096 = (y / 1073741824 % 4096 + turn (x % 1024)) % 4096 := fun y hy => by
    have h := it30 N hN y
    rw [hy] at h
    generalize itN lG N y = z at h ⊢
    generalize turn (x % 1024) = D at h ⊢
    constructor <;> omega
  have S : ∀ m, itN lG (m * N) x % 1024 = x % 1024 := fun m => by
    induction m with
    | zero => rw [Nat.zero_mul]; rfl
    | succ m ih => rw [Nat.succ_mul, itN_add]; exact (st _ ih).1
  have U : ∀ m, (itN lG ((m + 1) * N) x / 1073741824) % 4096 = (itN lG (m * N) x / 1073741824 % 4096 + turn (x % 1024)) % 4096 := fun m => by
    rw [Nat.succ_mul, itN_add]; exact (st _ (S m)).2
  apply Classical.byContradiction
  intro hno
  have A : ∀ m, m ≤ 8 → itN lG (m * N) x / 1073741824 % 4096 / 1024 = 1 := fun m hm => by
    have : itN lG (m * N) x / 1099511627776 % 4 = 1 := Classical.byContradiction (fun c => hno ⟨m, hm, c⟩)
    omega
  have a0 := A 0 (by omega)
  have a1 := A 1 (by omega)
  have a2 := A 2 (by omega)
  have a3 := A 3 (by omega)
  have a4 := A 4 (by omega)
  have a5 := A 5 (by omega)
  have a6 := A 6 (by omega)
  have a7 := A 7 (by omega)
  have a8 := A 8 (by omega)
  have u0 := U 0
  have u1 := U 1
  have u2 := U 2
  have u3 := U 3
  have u4 := U 4
  have u5 := U 5
  have u6 := U 6
  have u7 := U 7
  simp only [Nat.zero_add, Nat.reduceAdd] at u0 u1 u2 u3 u4 u5 u6 u7
  generalize itN lG (0 * N) x / 1073741824 % 4096 = v0 at *
  generalize itN lG (1 * N) x / 1073741824 % 4096 = v1 at *
  generalize itN lG (2 * N) x / 1073741824 % 4096 = v2 at *
  generalize itN lG (3 * N) x / 1073741824 % 4096 = v3 at *
  generalize itN lG (4 * N) x / 1073741824 % 4096 = v4 at *
  generalize itN lG (5 * N) x / 1073741824 % 4096 = v5 at *
  generalize itN lG (6 * N) x / 1073741824 % 4096 = v6 at *
  generalize itN lG (7 * N) x / 1073741824 % 4096 = v7 at *
  generalize itN lG (8 * N) x / 1073741824 % 4096 = v8 at *
  generalize turn (x % 1024) = D at *
  clear A U S st hno
  by_cases c1 : D ≤ 1024
  · have e0 : v1 = v0 + D := by omega
    have e1 : v2 = v1 + D := by omega
    have e2 : v3 = v2 + D := by omega
    have e3 : v4 = v3 + D := by omega
    have e4 : v5 = v4 + D := by omega
    have e5 : v6 = v5 + D := by omega
    have e6 : v7 = v6 + D := by omega
    have e7 : v8 = v7 + D := by omega
    omega
  · by_cases c2 : D ≤ 3072
    · omega
    · have e0 : v1 + 4096 = v0 + D := by omega
      have e1 : v2 + 4096 = v1 + D := by omega
      have e2 : v3 + 4096 = v2 + D := by omega
      have e3 : v4 + 4096 = v3 + D := by omega
      have e4 : v5 + 4096 = v4 + D := by omega
      have e5 : v6 + 4096 = v5 + D := by omega
      have e6 : v7 + 4096 = v6 + D := by omega
      have e7 : v8 + 4096 = v7 + D := by omega
      omega
/-- The lowest ten bits go their own way. -/
def lL (x : Nat) : Nat := (245 * x + 281) % 1024
theorem lG_low (x : Nat) : lG x % 1024 = lL (x % 1024) := by
  have h := lG_mod x
  unfold lL
  omega
def midN (t : Nat) : Bool := Nat.ble 128 t && Nat.ble t 3968
def phaseOk (L : Nat) : Bool := midN (turn L) || (midN (turn (lL L)) || midN (turn (lL (lL L))))
def allB : Nat → Nat → Bool
  | 0, p => phaseOk p
  | d + 1, p => allB d (2 * p) && allB d (2 * p + 1)
theorem allB_at : ∀ (d p : Nat), allB d p = true → ∀ L, p * 2 ^ d ≤ L → L < (p + 1) * 2 ^ d → phaseOk L = true
  | 0, p, h, L, h1, h2 => by
    have e : L = p := by rw [Nat.pow_zero] at h1 h2; omega
    rw [e]; exact h
  | d + 1, p, h, L, h1, h2 => by
    rw [allB, Bool.and_eq_true] at h
    rw [Nat.pow_succ] at h1 h2
    by_cases c : L < (2 * p + 1) * 2 ^ d
    · refine allB_at d (2 * p) h.1 L ?_ c
      have : p * (2 ^ d * 2) = 2 * p * 2 ^ d := by rw [Nat.mul_comm (2 ^ d) 2, ← Nat.mul_assoc, Nat.mul_comm p 2]
      omega
    · refine allB_at d (2 * p + 1) h.2 L (by omega) ?_
      have : (p + 1) * (2 ^ d * 2) = (2 * p + 1 + 1) * 2 ^ d := by rw [Nat.mul_comm (2 ^ d) 2, ← Nat.mul_assoc, show (p + 1) * 2 = 2 * p + 1 + 1 by omega]
      omega
theorem phases : allB 10 0 = true := by decide +kernel
theorem mid_le {t : Nat} (h : midN t = true) : 128 ≤ t ∧ t ≤ 3968 := by
  unfold midN at h
  rw [Bool.and_eq_true] at h
  exact ⟨Nat.le_of_ble_eq_true h.1, Nat.le_of_ble_eq_true h.2⟩
theorem itN_zero (x : Nat) : itN lG 0 x = x := by rw [itN]
theorem itN_one (x : Nat) : itN lG 1 x = lG x := by rw [itN, itN]
theorem itN_two (x : Nat) : itN lG 2 x = lG (lG x) := by rw [itN, itN, itN]
theorem rounds_bd {j m N : Nat} (hj : j ≤ 2) (hm : m ≤ 8) (hN : N = 2 ^ 30) : j + m * N ≤ 8589934594 := by
  have h1 : m * N ≤ 8 * N := Nat.mul_le_mul_right N hm
  have h2 : N = 1073741824 := by rw [hN]
  omega
/-- Soon enough a round goes further. -/
theorem adv_ex (x : Nat) : ∃ n, n ≤ 8589934594 ∧ itN lG n x / 1099511627776 % 4 ≠ 1 := by
  have hp := allB_at 10 0 phases (x % 1024) (by omega) (by have := Nat.mod_lt x (show 1024 > 0 by decide); omega)
  unfold phaseOk at hp
  rw [Bool.or_eq_true, Bool.or_eq_true] at hp
  have fin : ∀ j y, j ≤ 2 → itN lG j x = y → 128 ≤ turn (y % 1024) → turn (y % 1024) ≤ 3968 → ∃ n, n ≤ 8589934594 ∧ itN lG n x / 1099511627776 % 4 ≠ 1 := fun j y hj hy h1 h2 => by
    obtain ⟨N, hN⟩ : ∃ N : Nat, N = 2 ^ 30 := ⟨_, rfl⟩
    obtain ⟨m, hm, h⟩ := turn_out hN h1 h2
    refine ⟨j + m * N, ?_, ?_⟩
    · exact rounds_bd hj hm hN
    · rw [itN_add, hy]; exact h
  rcases hp with h | h | h
  · exact fin 0 x (by omega) (itN_zero x) (mid_le h).1 (mid_le h).2
  · exact fin 1 (lG x) (by omega) (itN_one x) (by rw [lG_low]; exact (mid_le h).1) (by rw [lG_low]; exact (mid_le h).2)
  · exact fin 2 (lG (lG x)) (by omega) (itN_two x) (by rw [lG_low, lG_low]; exact (mid_le h).1) (by rw [lG_low, lG_low]; exact (mid_le h).2)
end Go.Proofs.YtkjioadmebkaoaaDoor.Doc1

namespace Go.Proofs.YtkjioadmebkaoaaDoor
open Go.RowKit
open Doc1

/-- The cursor, with its place and its seed. -/
structure CurX (g : Nat) (C : Value) (i x : Nat) (w : World) : Prop where
  c0 : w.cell? ⟨g, 0, none⟩ = some C
  c1 : w.cell? ⟨g, 1, none⟩ = some (.int .i64 (i : Int))
  c2 : w.cell? ⟨g, 2, none⟩ = some (.int .u64 (x : Int))
  fz : ∀ j, w.frozen? ⟨g, j, none⟩ = false
def codeLen : Value → Nat
  | .slice _ n _ => n
  | _ => 0
theorem seed_eq (x : Nat) : IntKind.u64.wrap (IntKind.u64.wrap (IntKind.u64.wrap ((x : Int) * 6364136223846793005)) + 1442695040888963407) = ((lT x : Nat) : Int) := by
  rw [IntKind.wrap_u64, IntKind.wrap_u64, IntKind.wrap_u64]
  unfold lT
  omega
theorem byte_eq (z : Nat) (hz : z < 18446744073709551616) : wrap64 (bits .and .u64 ((z : Int) / 1099511627776) 255) = ((z / 1099511627776 % 256 : Nat) : Int) := by
  rw [u64_and _ 255 (by omega) (by omega) (by omega) (by omega)]
  have e1 : ((z : Int) / 1099511627776).toNat = z / 1099511627776 := by omega
  have e2 : (255 : Int).toNat = 2 ^ 8 - 1 := rfl
  rw [e1, e2, Nat.and_two_pow_sub_one_eq_mod]
  unfold wrap64
  have : z / 1099511627776 % 2 ^ 8 < 256 := Nat.mod_lt _ (by decide)
  omega
theorem lT_lt (x : Nat) : lT x < 18446744073709551616 := Nat.mod_lt _ (by decide)
theorem curX_step {g : Nat} {C : Value} {i x : Nat} {w w1 : World} {z : Nat} (b : Nat) (h : CurX g C i x w) (e : w1.heap = w.heap) (e1 : w1.os = w.os) (e2 : w1.tape = w.tape) (e3 : w1.output = w.output) :
    CurX g C (i + 1) z (((w1.setCell ⟨g, 1, none⟩ (.int .i64 ((i : Int) + 1))).setCell ⟨g, 2, none⟩ (.int .u64 (z : Int))).drewN b) ∧
      w.grownBy (((w1.setCell ⟨g, 1, none⟩ (.int .i64 ((i : Int) + 1))).setCell ⟨g, 2, none⟩ (.int .u64 (z : Int))).drewN b) (some g) := by
  have k : ∀ a, w1.cell? a = w.cell? a := fun a => by simp [World.cell?, e]
  have kf : ∀ a, w1.frozen? a = w.frozen? a := fun a => by simp [World.frozen?, e]
  have g1 : (w1.setCell ⟨g, 1, none⟩ (.int .i64 ((i : Int) + 1))).cell? ⟨g, 1, none⟩ = some (.int .i64 ((i : Int) + 1)) := World.cell?_setCell_same _ _ _ (by rw [k]; exact h.c1)
  have g2 : (w1.setCell ⟨g, 1, none⟩ (.int .i64 ((i : Int) + 1))).cell? ⟨g, 2, none⟩ = some (.int .u64 (x : Int)) := by rw [World.cell?_setCell_other _ _ _ _ (by simp), k]; exact h.c2
  refine ⟨{ c0 := ?_, c1 := ?_, c2 := ?_, fz := fun j => ?_ }, ⟨e1, e2, e3, ?_, fun j hj hne => ?_⟩⟩
  · show ((w1.setCell _ _).setCell _ _).cell? _ = _
    rw [World.cell?_setCell_other _ _ _ _ (by simp), World.cell?_setCell_other _ _ _ _ (by simp), k]; exact h.c0
  · show ((w1.setCell _ _).setCell _ _).cell? _ = _
    rw [World.cell?_setCell_other _ _ _ _ (by simp), g1]
    rfl
  · exact World.cell?_setCell_same _ _ _ g2
  · show ((w1.setCell _ _).setCell _ _).frozen? _ = _
    rw [World.frozen?_setCell, World.frozen?_setCell, kf]; exact h.fz j
  · show w.heap.size ≤ ((w1.setCell _ _).setCell _ _).heap.size
    simp [World.setCell, e]
  · show ((w1.setCell _ _).setCell _ _).heap[j]? = _
    have hjg : j ≠ g := fun he => hne (by rw [he])
    rw [Below.heap_setCell _ _ _ _ hjg, Below.heap_setCell _ _ _ _ hjg, e]
/-- What next leaves, told exactly behind the code's end. -/
def NextX (g : Nat) (C : Value) (i x : Nat) (w : World) (e : Ending) (w' : World) : Prop :=
  ∃ y x' : Nat, e = .returned (.int .i64 (y : Int)) ∧ y ≤ 255 ∧ x' < 18446744073709551616 ∧ CurX g C (i + 1) x' w' ∧ w.grownBy w' (some g) ∧ (codeLen C ≤ i → x' = lT x ∧ y = x' / 1099511627776 % 256)

set_option maxRecDepth 100000 in
set_option maxHeartbeats 1000000 in
theorem next_x (g : Nat) (C : Value) (i x : Nat) (w : World) (hcur : CurX g C i x w) (hco : CodeAt g C w) (hi : i ≤ 4000000000000000000) :
    Calls Tryd.prog 166 #[.pointer (some ⟨g, 0, none⟩)] w (NextX g C i x w) := by
  have h0 := hcur.c0
  have h1 := hcur.c1
  have h2 := hcur.c2
  have hf := hcur.fz
  cases hco with
  | nil _ a cap =>
    go_enter Tryd.func166, Tryd.ntmps166
    go_wp2
    go_quiet (fail)
    go_wp2
    go_quiet (fail)
    go_wp2
    go_ret
    have hz := lT_lt x
    rw [seed_eq, byte_eq _ hz]
    obtain ⟨z, hzz⟩ : ∃ z, z = lT x := ⟨_, rfl⟩
    rw [← hzz] at hz ⊢
    obtain ⟨y, hyy⟩ : ∃ y, y = z / 1099511627776 % 256 := ⟨_, rfl⟩
    rw [← hyy]
    exact ⟨y, z, rfl, by omega, hz, (curX_step _ hcur (by rfl) (by rfl) (by rfl) (by rfl)).1, (curX_step _ hcur (by rfl) (by rfl) (by rfl) (by rfl)).2, fun _ => ⟨hzz, hyy⟩⟩
  | row _ b o len cap hb hl hc =>
    by_cases hlt : i < len
    · obtain ⟨y, hy0, hy1, hcy⟩ := hc i hlt
      clear hc
      have hne : ¬ g = b := fun h => hb h.symm
      obtain ⟨q, rfl⟩ : ∃ q : Nat, y = q := ⟨y.toNat, by omega⟩
      go_enter Tryd.func166, Tryd.ntmps166
      go_wp2
      go_quiet (fail)
      go_wp2
      go_quiet (fail)
      go_wp2
      go_quiet (fail)
      go_wp2
      go_ret
      obtain ⟨z, hz, hzl⟩ : ∃ z : Nat, IntKind.u64.wrap (IntKind.u64.wrap (IntKind.u64.wrap ((x : Int) * 6364136223846793005) + (q : Int)) + 1442695040888963407) = (z : Int) ∧ z < 18446744073709551616 := by
        rw [IntKind.wrap_u64]
        generalize IntKind.u64.wrap (IntKind.u64.wrap ((x : Int) * 6364136223846793005) + (q : Int)) + 1442695040888963407 = t
        exact ⟨(t % 18446744073709551616).toNat, by omega, by omega⟩
      rw [hz]
      exact ⟨q, z, rfl, by omega, hzl, (curX_step _ hcur (by rfl) (by rfl) (by rfl) (by rfl)).1, (curX_step _ hcur (by rfl) (by rfl) (by rfl) (by rfl)).2, fun c => absurd c (by show ¬ len ≤ i; omega)⟩
    · clear hc
      go_enter Tryd.func166, Tryd.ntmps166
      go_wp2
      go_quiet (fail)
      go_wp2
      go_quiet (fail)
      go_wp2
      go_ret
      have hz := lT_lt x
      rw [seed_eq, byte_eq _ hz]
      obtain ⟨z, hzz⟩ : ∃ z, z = lT x := ⟨_, rfl⟩
      rw [← hzz] at hz ⊢
      obtain ⟨y, hyy⟩ : ∃ y, y = z / 1099511627776 % 256 := ⟨_, rfl⟩
      rw [← hyy]
      exact ⟨y, z, rfl, by omega, hz, (curX_step _ hcur (by rfl) (by rfl) (by rfl) (by rfl)).1, (curX_step _ hcur (by rfl) (by rfl) (by rfl) (by rfl)).2, fun _ => ⟨hzz, hyy⟩⟩

/-- What a draw of one of a few numbers leaves. -/
def PickX (g : Nat) (C : Value) (i x n : Nat) (w : World) (e : Ending) (w' : World) : Prop :=
  ∃ y x' : Nat, e = .returned (.int .i64 (y : Int)) ∧ y < n ∧ x' < 18446744073709551616 ∧ CurX g C (i + 1) x' w' ∧ w.grownBy w' (some g) ∧ (codeLen C ≤ i → x' = lT x ∧ y = x' / 1099511627776 % 256 % n)

set_option maxHeartbeats 1000000 in
theorem pick_x (g : Nat) (C : Value) (i x n : Nat) (w : World) (hcur : CurX g C i x w) (hco : CodeAt g C w) (hi : i ≤ 4000000000000000000) (hn1 : 2 ≤ n) (hn2 : n ≤ 200) :
    Calls Tryd.prog 114 #[.pointer (some ⟨g, 0, none⟩), .int .i64 (n : Int)] w (PickX g C i x n w) := by
  have H1 := hidI (next_x g C i x w hcur hco hi)
  clear hcur hco
  have h1 : ¬ (n : Int) ≤ 1 := by omega
  have h2 : (n : Int) ≤ 200 := by omega
  go_enter Tryd.func114, Tryd.ntmps114
  go_wp2_with fail
  refine H1.out.mono ?_
  rintro e w1 ⟨y, x', rfl, hy1, hxl, hc1, hg1, hex⟩
  have HC := hidI hc1
  have HG := hidI hg1
  have HX := hidI hex
  clear hc1 hg1 hex
  go_wp2
  go_ret
  have hlt : y % n < n := Nat.mod_lt _ (by omega)
  refine ⟨y % n, x', ?_, hlt, hxl, HC.out, HG.out, fun c => ⟨(HX.out c).1, by rw [← (HX.out c).2]⟩⟩
  show Ending.returned (.int .i64 _) = _
  rw [Int.natCast_emod]

/-- What a draw of a text leaves. -/
def OfX (g : Nat) (C : Value) (i x S : Nat) (w : World) (e : Ending) (w' : World) : Prop :=
  ∃ (s : ByteArray) (x' : Nat), e = .returned (.string s) ∧ s.size ≤ S ∧ x' < 18446744073709551616 ∧ CurX g C (i + 1) x' w' ∧ w.grownBy w' (some g) ∧ (codeLen C ≤ i → x' = lT x)

set_option maxHeartbeats 1000000 in
theorem of_x (g : Nat) (C : Value) (i x S : Nat) (b o len cap : Nat) (w : World) (hcur : CurX g C i x w) (hco : CodeAt g C w) (hi : i ≤ 4000000000000000000) (hb : b ≠ g) (hl : TextsAt S b o len w) (h1 : 2 ≤ len) (h2 : len ≤ 200) (_h3 : len ≤ cap) :
    Calls Tryd.prog 140 #[.pointer (some ⟨g, 0, none⟩), .slice (some ⟨b, o, none⟩) len cap] w (OfX g C i x S w) := by
  have H1 := hidI (pick_x g C i x len w hcur hco hi h1 h2)
  clear hcur hco
  go_enter Tryd.func140, Tryd.ntmps140
  go_wp2_with fail
  refine H1.out.mono ?_
  rintro e w1 ⟨y, x', rfl, hy, hxl, hc1, hg1, hex⟩
  obtain ⟨s, hs, hcs⟩ := hl.at_ y hy
  have hc' : w1.cell? ⟨b, o + y, none⟩ = some (.string s) := hg1.cell hcs (fun e => hb (by cases e; rfl))
  have HC := hidI hc1
  have HG := hidI hg1
  have HX := hidI hex
  clear hl hcs hc1 hg1 hex
  go_wp2
  go_ret
  exact ⟨s, x', rfl, hs, hxl, HC.out, HG.out, fun c => (HX.out c).1⟩
end Go.Proofs.YtkjioadmebkaoaaDoor

namespace Go.Proofs.YtkjioadmebkaoaaDoor
open Go.RowKit
open Doc1

/-- From a seed, the least round that goes further. -/
noncomputable def dist (y : Nat) : Nat := Classical.choose (least (adv_ex y))
theorem dist_spec (y : Nat) : (dist y ≤ 8589934594 ∧ itN lG (dist y) y / 1099511627776 % 4 ≠ 1) ∧ ∀ m, m < dist y → ¬ (m ≤ 8589934594 ∧ itN lG m y / 1099511627776 % 4 ≠ 1) := Classical.choose_spec (least (adv_ex y))
theorem dist_pos {y : Nat} (h : y / 1099511627776 % 4 = 1) : 0 < dist y := by
  have := (dist_spec y).1.2
  rcases Nat.eq_zero_or_pos (dist y) with h0 | h0
  · rw [h0, itN_zero] at this; exact absurd h this
  · exact h0
theorem dist_next {y : Nat} (h : y / 1099511627776 % 4 = 1) : dist (lG y) < dist y := by
  have h1 := dist_pos h
  have h2 := dist_spec y
  have h3 := dist_spec (lG y)
  obtain ⟨d, hd⟩ : ∃ d, dist y = d + 1 := ⟨dist y - 1, by omega⟩
  rcases Nat.lt_or_ge d (dist (lG y)) with c | c
  · exfalso
    refine h3.2 d c ⟨by omega, ?_⟩
    have := h2.1.2
    rw [hd, itN] at this
    exact this
  · omega
theorem lT_lG (x : Nat) : lT (lT (lG x)) = lG (lT (lT x)) := rfl
/-- How many rounds may be left: the text that is left, and how far the next step lies. -/
noncomputable def farX (n i x : Nat) : Nat := if i < n then n - i + 8589934596 else dist (lT (lT x))
theorem far_le (n i x : Nat) : farX n i x ≤ n + 8589934596 := by
  unfold farX
  split
  · omega
  · have := (dist_spec (lT (lT x))).1.1; omega
theorem far_next {n i x x3 : Nat} (h : n ≤ i → (lT (lT x) / 1099511627776 % 4 = 1 ∧ x3 = lG x)) : farX n (i + 3) x3 < farX n i x := by
  unfold farX
  by_cases c : i < n
  · rw [if_pos c]
    split
    · omega
    · have := (dist_spec (lT (lT x3))).1.1; omega
  · obtain ⟨h1, h2⟩ := h (by omega)
    rw [if_neg c, if_neg (by omega), h2, lT_lG]
    exact dist_next h1
end Go.Proofs.YtkjioadmebkaoaaDoor
