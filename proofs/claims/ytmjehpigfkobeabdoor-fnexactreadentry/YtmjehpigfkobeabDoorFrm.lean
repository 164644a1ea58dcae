/- What an append changes: nothing below a bound, and of what lay one block alone. -/
import Derived.Test.YtmjehpigfkobeabDoorRowsG
import Derived.Test.YtmjehpigfkobeabDoorWalksQ
import Derived.Test.YtmjehpigfkobeabDoorOwnG
import Derived.Deep.AppendLies
namespace Go.Proofs.YtmjehpigfkobeabDoor
open Go.RowKit
open Doc1

theorem addr0 (g j : Nat) : (⟨g, 0, none⟩ : Addr).add j = ⟨g, j, none⟩ := by unfold Addr.add; split <;> simp_all
theorem cell3_at (W : World) (k : Nat) (hk : k = W.heap.size) (a b c : Value) (t : TypeId) : ∀ j u, [a, b, c][j]? = some u → (W.alloc (.cells #[a, b, c] t)).cell? ((⟨k, 0, none⟩ : Addr).add j) = some u := by
  subst hk
  intro j u hu
  have hh := heap_alloc_new W (.cells #[a, b, c] t)
  rw [addr0]
  unfold World.cell?
  rw [hh]
  match j, hu with
  | 0, hu => simpa using hu
  | 1, hu => simpa using hu
  | 2, hu => simpa using hu
/-- An append to a row of one's own, and where the row lies then. -/
theorem wpList_append_loc {P : Program} {ops : Array Oper} {rest : List Oper} {o : Oper} {a : Act} {Q : Exit → Act → World → Prop} (w : World) (hgd : o.guard = none) (s x : Operand) (t : TypeId)
    (ho : o.op = .call { callee := .builtin .append, args := #[s, x], argTypes := #[t, t] }) (B : Nat) (e : TypeId) (i : TypeInfo) (z : Value) (size bytes : Nat) (ht : P.underlying t = some (.slice e)) (hi : P.info? e = some i) (hz : i.zero = some z)
    (hsize : i.size = size) (hby : i.bytes = bytes) (hzs : z.cells.size = size) (hsz : 0 < size) (v : Value) (n : Nat) (xs : List Value) (hs : a.eval s = v) (hown : w.ownsRow B e size v n xs)
    (ad : Addr) (m c : Nat) (news : List Value) (hx : a.eval x = .slice (some ad) m c) (hl : news.length = m * size) (hnews : ∀ j u, news[j]? = some u → w.cell? (ad.add j) = some u) (h1 : ∀ u ∈ news, u.oneCell' = true)
    (h63 : n + m ≤ maxLen) (hbytes : (n + m) * bytes ≤ 140737488355328) (hbase : B ≤ w.heap.size)
    (h : ∀ v' w', w'.ownsRow B e size v' (n + m) (xs ++ news) → w.grownBy w' v.ownBlock → (v'.ownBlock = v.ownBlock ∨ ∀ y, v'.ownBlock = some y → w.heap.size ≤ y) → wpList P ops Q rest (a.put o.dst v') w') (hm : 0 < m := by decide) :
    wpList P ops Q (o :: rest) a w :=
  wpList_plain hgd fun _ hK => wp_append_lies w s x t ho B e i z size bytes ht hi hz hsize hby hzs hsz v n xs hs hown ad m c news hx hl hnews h1 hm h63 hbytes hbase w.heap.size rfl
    (fun g cap w' h1 h2 h3 _ => hK _ _ (h (.slice (some ⟨g, 0, none⟩) (n + m) cap) w' h1 h2 (h3.imp (fun e => e.symm) (fun e y hy => by
      have : some g = some y := hy
      have := Option.some.inj this
      omega))))
/-- What is changed: nothing below B, and of what lay nothing but one block. -/
structure Fr (B : Nat) (r : Option Nat) (w w' : World) : Prop where
  b : Below B w w'
  g : w.grownBy w' r
theorem Fr.refl (B : Nat) (r : Option Nat) (w : World) : Fr B r w w := ⟨Below.refl _ _, ⟨rfl, rfl, rfl, Nat.le_refl _, fun _ _ _ => rfl⟩⟩
theorem Fr.alloc {B : Nat} {r : Option Nat} {w w1 : World} (h : Fr B r w w1) (hs : B ≤ w1.heap.size) (o : Obj) : Fr B r w (w1.alloc o) := ⟨h.b.alloc hs o, h.g.trans (World.grownBy_alloc w1 o r)⟩
theorem Fr.setCell {B g : Nat} {w w1 : World} (h : Fr B (some g) w w1) {p : Addr} (hp : B ≤ p.block) (v : Value) (hg : p.block = g := by rfl) : Fr B (some g) w (w1.setCell p v) :=
  ⟨h.b.setCell hp v, h.g.trans ⟨rfl, rfl, rfl, by simp, fun k _ hne => Below.heap_setCell _ _ _ _ (fun e => hne (by rw [e, hg]))⟩⟩
theorem Fr.drew {B : Nat} {r : Option Nat} {w w1 : World} (h : Fr B r w w1) : Fr B r w w1.drew := ⟨h.b.drew, ⟨h.g.os, h.g.tape, h.g.output, h.g.size, h.g.block⟩⟩
theorem fr_append {B : Nat} {w w1 w2 : World} {e : TypeId} {size n : Nat} {v : Value} {xs : List Value} {o : Obj} (hb : Fr B v.ownBlock w w1) (hown : w1.ownsRow B e size v n xs) (hB : B ≤ w1.heap.size) (hg : (w1.alloc o).grownBy w2 v.ownBlock) : Fr B v.ownBlock w w2 :=
  ⟨below_append hb.b hown hB hg, (hb.g.trans (World.grownBy_alloc w1 o _)).trans hg⟩
theorem Fr.kept {B : Nat} {r : Option Nat} {w w1 : World} (h : Fr B r w w1) {k : Nat} (hk : k < w.heap.size) (hr : r ≠ some k) : w1.heap[k]? = w.heap[k]? := h.g.block k hk hr.symm
theorem Fr.cell {B : Nat} {r : Option Nat} {w w1 : World} (h : Fr B r w w1) {k j : Nat} (hk : k < w.heap.size) (hr : r ≠ some k) : w1.cell? ⟨k, j, none⟩ = w.cell? ⟨k, j, none⟩ := World.cell?_of_block (h.kept hk hr)
theorem Fr.trans {B : Nat} {r : Option Nat} {w w1 w2 : World} (h : Fr B r w w1) (k : Fr B r w1 w2) : Fr B r w w2 := ⟨h.b.trans k.b, h.g.trans k.g⟩
/-- Two steps, the second into the block that the first one left. -/
theorem Fr.on {B : Nat} {r r1 : Option Nat} {w w1 w2 : World} (h : Fr B r w w1) (k : Fr B r1 w1 w2) (hr : r1 = r ∨ ∀ y, r1 = some y → w.heap.size ≤ y) : Fr B r w w2 := by
  refine ⟨h.b.trans k.b, ?_⟩
  rcases hr with rfl | hr
  · exact h.g.trans k.g
  · refine ⟨k.g.os.trans h.g.os, k.g.tape.trans h.g.tape, k.g.output.trans h.g.output, Nat.le_trans h.g.size k.g.size, fun x hx hne => ?_⟩
    rw [k.g.block x (Nat.lt_of_lt_of_le hx h.g.size) (fun e => by have := hr x e.symm; omega)]
    exact h.g.block x hx hne
theorem Fr.drewL {B : Nat} {r : Option Nat} {w w1 : World} (h : Fr B r w.drew w1) : Fr B r w w1 := (Fr.refl B r w).drew.trans h
end Go.Proofs.YtmjehpigfkobeabDoor
