/- A text put behind a row of bytes, and bytes read as a text. -/
import Derived.Test.YtmjehpigfkobeabDoorAppStr
import Derived.Test.YtmjehpigfkobeabDoorTreeM
import Derived.Test.YtmjehpigfkobeabDoorWalksQ
set_option linter.unusedVariables false
namespace Go.Proofs.YtmjehpigfkobeabDoor
open Go.RowKit
open Doc1

theorem apdB (a b : ByteArray) : (a ++ b).data.toList = a.data.toList ++ b.data.toList := by simp
theorem szB (s : ByteArray) : s.size = s.data.toList.length := by simp

/-- A text put behind a row of bytes of one's own, in a list of operations. -/
theorem wpList_str {P : Program} {w : World} {ops : Array Oper} {rest : List Oper} {o : Oper} {a : Act} {Q : Exit → Act → World → Prop} (hgd : o.guard = none) (sl x : Operand) (t u : TypeId)
    (ho : o.op = .call { callee := .builtin .append, args := #[sl, x], argTypes := #[t, u] })
    (base : Nat) (e : TypeId) (i : TypeInfo) (ht : P.underlying t = some (.slice e)) (hu : P.underlying u = some .string) (hi : P.info? e = some i) (hz : i.zero = some (.int .u8 0)) (hsize : i.size = 1) (hby : i.bytes = 1)
    (v : Value) (n : Nat) (xs : List Value) (hs : a.eval sl = v) (hown : w.ownsRow base e 1 v n xs) (s : ByteArray) (hx : a.eval x = .string s) (hbytes : n + s.size ≤ 8388608) (hbase : base ≤ w.heap.size)
    (h : ∀ v' w', w'.ownsRow base e 1 v' (n + s.size) (xs ++ byt s.data.toList) → w.grownBy w' v.ownBlock → (v'.ownBlock = v.ownBlock ∨ ∀ x, v'.ownBlock = some x → w.heap.size ≤ x) → wpList P ops Q rest (a.put o.dst v') w') :
    wpList P ops Q (o :: rest) a w := by
  refine wpList_plain hgd fun K hK => ?_
  obtain ⟨v', w', hr, h2, h3, h4⟩ := run_str (P := P) w base t u o.type e i ht hu hi hz hsize hby v n xs hown s hbytes hbase
  unfold Oper.wp execOp
  simp only [ho, resolve, invoke, builtin, Sem.run_bind, Sem.run_pure, Result.andThen_ok, List.map_toArray, List.map_cons, List.map_nil, hs, hx, hr]
  exact hK _ _ (h v' w' h2 h3 h4)
/-- A row of bytes of one's own. -/
def ByOwn (w : World) (B : Nat) (v : Value) (b : ByteArray) : Prop := w.ownsRow B 5 1 v b.size (byt b.data.toList)
theorem ByOwn.app {w : World} {B : Nat} {v : Value} {b c : ByteArray} (h : w.ownsRow B 5 1 v (b.size + c.size) (byt b.data.toList ++ byt c.data.toList)) : ByOwn w B v (b ++ c) := by
  unfold ByOwn
  rw [ByteArray.size_append, apdB]
  unfold byt at h ⊢
  rw [List.map_append]
  exact h
theorem ByOwn.conv {w : World} {B : Nat} {v : Value} {b : ByteArray} (h : ByOwn w B v b) : (convert 62 9 v).run Tryd.prog w = .ok (.string b) w := by
  have h2 : w.ownsRow B 5 1 v b.data.toList.length (byt b.data.toList) := by rw [← szB]; exact h
  have := conv_own h2
  have e : (⟨b.data.toList.toArray⟩ : ByteArray) = b := ba_of b
  rw [e] at this
  exact this
theorem grown_cell {w w' : World} {r : Option Nat} {b j : Nat} {x : Value} (hg : w.grownBy w' r) (hne : ∀ k, r = some k → k ≠ b) (hb : b < w.heap.size) (h : w.cell? ⟨b, j, none⟩ = some x) : w'.cell? ⟨b, j, none⟩ = some x :=
  (World.cell?_of_block (a := ⟨b, j, none⟩) (hg.block b hb (fun e => hne b e.symm rfl))).trans h
theorem loc_ne {v v3 : Value} {b n : Nat} (h : v3.ownBlock = v.ownBlock ∨ ∀ x, v3.ownBlock = some x → n ≤ x) (hv : ∀ q, v.ownBlock = some q → q ≠ b) (hn : b < n) : ∀ q, v3.ownBlock = some q → q ≠ b := fun q hq => by
  rcases h with c | c
  · exact hv q (by rw [← c]; exact hq)
  · have := c q hq; omega
theorem grown_belowB {B : Nat} {w w1 w2 : World} {e : TypeId} {size n : Nat} {v : Value} {xs : List Value} (hb : Below B w w1) (hB : B ≤ w1.heap.size) (hown : w1.ownsRow B e size v n xs) (hg : w1.grownBy w2 v.ownBlock) : Below B w w2 :=
  hb.grown hg hB (fun k e => (hown.lt k e).1)
end Go.Proofs.YtmjehpigfkobeabDoor
