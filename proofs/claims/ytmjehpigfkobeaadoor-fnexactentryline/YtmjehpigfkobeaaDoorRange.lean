/- A range over an iterator, told by footprints: each round moves only what the loop's caller owns, and the iterator moves nothing that was there but by its rounds. -/
import Derived.RangeFuncNested
namespace Go.Proofs.YtmjehpigfkobeaaDoor
open Go Go.RowKit

/-- From W, where the blocks of O are owned, to W', where those of O' are: of what lay in W only owned blocks have changed, and what is owned now was so, or is new. -/
structure Moves (O : Nat → Prop) (W : World) (O' : Nat → Prop) (W' : World) : Prop where
  os : W'.os = W.os
  tape : W'.tape = W.tape
  output : W'.output = W.output
  size : W.heap.size ≤ W'.heap.size
  same : ∀ k, k < W.heap.size → ¬ O k → W'.heap[k]? = W.heap[k]?
  own : ∀ k, k < W.heap.size → O' k → O k

theorem Moves.refl (O : Nat → Prop) (W : World) : Moves O W O W := ⟨rfl, rfl, rfl, Nat.le_refl _, fun _ _ _ => rfl, fun _ _ h => h⟩
theorem Moves.trans {A B C : Nat → Prop} {W X Y : World} (h : Moves A W B X) (g : Moves B X C Y) : Moves A W C Y :=
  ⟨g.os.trans h.os, g.tape.trans h.tape, g.output.trans h.output, Nat.le_trans h.size g.size,
    fun k hk hn => (g.same k (Nat.lt_of_lt_of_le hk h.size) (fun c => hn (h.own k hk c))).trans (h.same k hk hn),
    fun k hk hc => h.own k hk (g.own k (Nat.lt_of_lt_of_le hk h.size) hc)⟩
/-- More may be called owned at the outset, and less at the end. -/
theorem Moves.wider {A A' B B' : Nat → Prop} {W X : World} (h : Moves A W B X) (ha : ∀ k, k < W.heap.size → A k → A' k) (hb : ∀ k, k < W.heap.size → B' k → A' k) : Moves A' W B' X :=
  ⟨h.os, h.tape, h.output, h.size, fun k hk hn => h.same k hk (fun c => hn (ha k hk c)), fun k hk hc => hb k hk hc⟩
theorem Moves.below {A B : Nat → Prop} {W X : World} {m : Nat} (h : Moves A W B X) (hm : m ≤ W.heap.size) (hA : ∀ k, k < m → ¬ A k) : Below m W X :=
  ⟨h.os, h.tape, h.output, h.size, fun k hk => h.same k (by omega) (hA k hk)⟩
theorem moves_below {A B : Nat → Prop} {W X : World} {m : Nat} (h : Below m W X) (hA : ∀ k, m ≤ k → k < W.heap.size → A k) (hB : ∀ k, k < W.heap.size → B k → A k) : Moves A W B X :=
  ⟨h.os, h.tape, h.output, h.size, fun k hk hn => h.block k (Nat.lt_of_not_le (fun c => hn (hA k c hk))), hB⟩
theorem Moves.alloc {A B : Nat → Prop} {W X : World} (h : Moves A W B X) (o : Obj) : Moves A W (fun k => B k ∨ k = X.heap.size) (X.alloc o) :=
  ⟨h.os, h.tape, h.output, by simp only [World.size_alloc]; exact Nat.le_succ_of_le h.size, fun k hk hn => (Below.heap_alloc X o k (Nat.lt_of_lt_of_le hk h.size)).trans (h.same k hk hn),
    fun k hk hc => hc.elim (h.own k hk) (fun e => absurd h.size (by omega))⟩
theorem Moves.setCell {A B : Nat → Prop} {W X : World} (h : Moves A W B X) {p : Addr} (hp : p.block < W.heap.size → A p.block) (v : Value) : Moves A W B (X.setCell p v) :=
  ⟨h.os, h.tape, h.output, by simpa using h.size, fun k hk hn => (Below.heap_setCell X p v k (fun e => by subst e; exact hn (hp hk))).trans (h.same k hk hn), h.own⟩
theorem Moves.putObj {A B : Nat → Prop} {W X : World} (h : Moves A W B X) {r : Nat} (hr : r < W.heap.size → A r) (o : Obj) : Moves A W B (X.putObj r o) :=
  ⟨h.os, h.tape, h.output, by simpa using h.size, fun k hk hn => (World.putObj_heap_other (fun e => by subst e; exact hn (hr hk))).trans (h.same k hk hn), h.own⟩
theorem Moves.drew {A B : Nat → Prop} {W X : World} (h : Moves A W B X) : Moves A W B X.drew := ⟨h.os, h.tape, h.output, h.size, h.same, h.own⟩

/-- What is said of owned blocks alone: it bears whatever leaves these as they lie. -/
structure Held {σ : Type} (J : σ → (Nat → Prop) → World → Prop) : Prop where
  lt : ∀ {s O W}, J s O W → ∀ k, O k → k < W.heap.size
  kept : ∀ {s O W W'}, J s O W → W.heap.size ≤ W'.heap.size → (∀ k, O k → W'.heap[k]? = W.heap[k]?) → J s O W'

/-- What the function value 'g' does that ranges over xs, if what it needs lies as in w: it hands on each in turn, till a round wants no more. -/
def Iter {α : Type} (P : Program) (g : Nat) (lb : Array Value) (encs : α → Array Value) (xs : List α) (Need : Nat → Prop) (w : World) : Prop :=
  ∀ (n l : Nat) (J Jx : List α → (Nat → Prop) → World → Prop) (O : Nat → Prop) (W : World), Held J → Held Jx → w.heap.size ≤ W.heap.size → (∀ k, Need k → W.heap[k]? = w.heap[k]? ∧ ¬ O k) →
    (∀ pre x O W, J pre O W → pre ++ [x] <+: xs → YieldAt Fence.wide (n - 1) P l (encs x) W fun e W' =>
      ∃ O', Moves O W O' W' ∧ ((e = .returned (.bool true) ∧ J (pre ++ [x]) O' W') ∨ (e = .returned (.bool false) ∧ Jx (pre ++ [x]) O' W'))) →
    J [] O W →
    CallsIn Fence.wide n P g (#[.func (.yield l) #[] #[]] ++ lb) W fun e W' => (∃ v, e = .returned v) ∧ ∃ O', Moves O W O' W' ∧ (J xs O' W' ∨ ∃ pre, pre <+: xs ∧ Jx pre O' W')

/-- How a round may be left. -/
def RoundEnd {α : Type} (J : List α → (Nat → Prop) → World → Prop) (Jx : Code → List α → (Nat → Prop) → World → Prop) (ys : List α) (O : Nat → Prop) (W : World) : Exit → Act → World → Prop
  | .normal, _, W' => ∃ O', Moves O W O' W' ∧ J ys O' W'
  | .ret, _, W' => ∃ O', Moves O W O' W' ∧ Jx .ret ys O' W'
  | .exit id, _, W' => ∃ O', Moves O W O' W' ∧ Jx (.exit id) ys O' W'
  | .goto t, _, W' => ∃ O', Moves O W O' W' ∧ Jx (.goto t) ys O' W'
  | .panic _, _, _ => False
  | .outgrown, _, _ => False

/-- With the loop's record L and its block D for deferred calls beside what the caller owns. -/
def Beside (L D : Nat) (o : Obj) (I : (Nat → Prop) → World → Prop) (B : Nat → Prop) (W : World) : Prop :=
  ∃ O, I O W ∧ (∀ k, B k ↔ O k ∨ k = L ∨ k = D) ∧ ¬ O L ∧ ¬ O D ∧ W.heap[L]? = some o ∧ W.heap[D]? = some (.deferred (some []))
theorem Beside.less {L D : Nat} {o : Obj} {I : (Nat → Prop) → World → Prop} {B : Nat → Prop} {W : World} (hI : ∀ O, I O W → ∀ k, O k → k < W.heap.size) (h : Beside L D o I B W) : ∀ k, B k → k < W.heap.size := by
  obtain ⟨O, i, hB, -, -, hl, hd⟩ := h
  intro k hk
  rcases (hB k).1 hk with c | rfl | rfl
  · exact hI O i k c
  · exact (Array.getElem?_eq_some_iff.1 hl).1
  · exact (Array.getElem?_eq_some_iff.1 hd).1
theorem Beside.stays {L D : Nat} {o : Obj} {I : (Nat → Prop) → World → Prop} {B : Nat → Prop} {W W' : World} (hI : ∀ O, I O W → (∀ k, O k → W'.heap[k]? = W.heap[k]?) → I O W') (h : Beside L D o I B W) (hs : ∀ k, B k → W'.heap[k]? = W.heap[k]?) : Beside L D o I B W' := by
  obtain ⟨O, i, hB, nl, nd, hl, hd⟩ := h
  exact ⟨O, hI O i (fun k hk => hs k ((hB k).2 (.inl hk))), hB, nl, nd, (hs L ((hB L).2 (.inr (.inl rfl)))).trans hl, (hs D ((hB D).2 (.inr (.inr rfl)))).trans hd⟩

section
variable {P : Program} {n : Nat} {α : Type}

/-- One turn of the record keeps what is owned beside it. -/
theorem Held.turn {σ : Type} {J : σ → (Nat → Prop) → World → Prop} (h : Held J) {s : σ} {O : Nat → Prop} {W : World} {L : Nat} (o : Obj) (hL : ¬ O L) (j : J s O W) : J s O (W.putObj L o) :=
  h.kept j (by simp) (fun _ hk => World.putObj_heap_other (fun e => hL (e ▸ hk)))

theorem wpIn_range {g : Operand} {ps : Array Tmp} {assign body : Code} {Q : Exit → Act → World → Prop} {a : Act} {w : World} {gf : Nat} {lb : Array Value}
    (hg : a.eval g = .func (.func gf) #[] lb) (eg : ∀ args w, (callFunc gf args).run P w = .ok (.enter gf args) w)
    {encs : α → Array Value} {xs : List α} {Need : Nat → Prop} {w0 : World} (it : Iter P gf lb encs xs Need w0) (hps : ∀ x, (encs x).size = ps.size)
    {J : List α → (Nat → Prop) → World → Prop} {Jx : Code → List α → (Nat → Prop) → World → Prop} {O : Nat → Prop} (hJ : Held J) (hJx : ∀ c, Held (Jx c))
    (hw : w0.heap.size ≤ w.heap.size) (need : ∀ k, Need k → k < w.heap.size ∧ w.heap[k]? = w0.heap[k]? ∧ ¬ O k) (h0 : J [] O w)
    {Ax : List α → α → Act → (Nat → Prop) → World → Prop} (hAx : ∀ pre x a', Held (fun (_ : Unit) => Ax pre x a'))
    (assigned : ∀ (l : Nat) (pre : List α) (x : α) (O : Nat → Prop) (W : World) (K : Act → World → Prop), J pre O W → pre ++ [x] <+: xs → (∀ a' O' W', Moves O W O' W' → Ax pre x a' O' W' → K a' W') →
      assign.wpIn (Fence.wide.inRound l) (n - 1 - 1) P (Exit.then K (fun _ _ _ => False)) { tmps := (ps.zip (encs x)).foldl (fun t (p, v) => t.setIfInBounds p v) a.tmps, defers := [] } W)
    (round : ∀ (l : Nat) (pre : List α) (x : α) (a' : Act) (O : Nat → Prop) (W : World), Ax pre x a' O W → l < W.heap.size → ¬ O l → pre ++ [x] <+: xs → body.wpIn (Fence.wide.inRound l) (n - 1 - 1) P (RoundEnd J Jx (pre ++ [x]) O W) a' W)
    (done : ∀ (D : Nat) (O' : Nat → Prop) (W : World), w.heap.size ≤ D → ¬ O' D → J xs O' W → Moves O w O' W → W.heap[D]? = some (.deferred (some [])) → Q .normal { a with defers := { target := .collected D, args := #[] } :: a.defers } W)
    (stop : ∀ (D : Nat) (c : Code) (pre : List α) (O' : Nat → Prop) (W : World), w.heap.size ≤ D → ¬ O' D → pre <+: xs → Jx c pre O' W → Moves O w O' W → W.heap[D]? = some (.deferred (some [])) →
      c.wpIn Fence.wide n P Q { a with defers := { target := .collected D, args := #[] } :: a.defers } W) :
    (Code.rangeFunc g ps assign body).wpIn Fence.wide n P Q a w := by
  refine wpIn_rangeFunc fun fn _ => ?_
  -- the two blocks that the statement lays
  have hD : ∀ o₁ o₂ : Obj, ((w.alloc o₁).alloc o₂).heap[w.heap.size]? = some o₁ := fun o₁ o₂ => (Below.heap_alloc _ o₂ _ (by simp)).trans (World.alloc_heap_new w o₁)
  have hL : ∀ o₁ o₂ : Obj, ((w.alloc o₁).alloc o₂).heap[w.heap.size + 1]? = some o₂ := fun o₁ o₂ => by rw [← World.size_alloc w o₁]; exact World.alloc_heap_new _ o₂
  have hold : ∀ (o₁ o₂ : Obj) k, k < w.heap.size → ((w.alloc o₁).alloc o₂).heap[k]? = w.heap[k]? := fun o₁ o₂ k hk => (Below.heap_alloc _ o₂ k (by simp; omega)).trans (Below.heap_alloc w o₁ k hk)
  let R : LoopState → Option Code → Loop := fun st pe => { state := st, pending := pe, fn := fn, tmps := a.tmps, params := ps, assign := assign, body := body, defers := w.heap.size }
  have noL : ∀ k, O k → k < w.heap.size := hJ.lt h0
  refine ⟨_, _, _, ⟨.fn (.func gf) lb, #[.func (.yield (w.heap.size + 1)) #[] #[]]⟩, (w.alloc (.deferred (some []))).alloc (.loop (R .ready none)), gf, #[.func (.yield (w.heap.size + 1)) #[] #[]] ++ lb, (w.alloc (.deferred (some []))).alloc (.loop (R .ready none)), run_enterLoop_outer fn a.tmps ps assign body, ?_, fun _ _ => trivial, ?_, (fun c => by cases c), ?_⟩
  · simp only [resolve, hg]
    simp [go_sem] <;> rfl
  · simp [invoke, go_sem, eg]
  -- what holds between two rounds, and what holds when one has left
  let I : List α → (Nat → Prop) → World → Prop := fun pre B W => Beside (w.heap.size + 1) w.heap.size (.loop (R .ready none)) (J pre) B W
  let Ix : List α → (Nat → Prop) → World → Prop := fun pre B W => ∃ c, Beside (w.heap.size + 1) w.heap.size (.loop (R .done (some c))) (Jx c pre) B W
  have hI : Held I := ⟨fun h => h.less (fun O i => hJ.lt i), fun h hs hk => h.stays (fun O i => hJ.kept i hs) hk⟩
  have hIx : Held Ix := ⟨fun ⟨c, h⟩ => h.less (fun O i => (hJx c).lt i), fun ⟨c, h⟩ hs hk => ⟨c, h.stays (fun O i => (hJx c).kept i hs) hk⟩⟩
  have start : I [] (fun k => O k ∨ k = w.heap.size + 1 ∨ k = w.heap.size) ((w.alloc (.deferred (some []))).alloc (.loop (R .ready none))) :=
    ⟨O, hJ.kept h0 (by simp; omega) (fun k hk => hold _ _ k (noL k hk)), fun k => Iff.rfl, fun c => absurd (noL _ c) (by omega), fun c => absurd (noL _ c) (by omega), hL _ _, hD _ _⟩
  refine (it (n - 1) (w.heap.size + 1) I Ix _ _ hI hIx (by simp; omega) (fun k hk => ?_) (fun pre x B W hi hx => ?_) start).mono ?_
  · obtain ⟨lt, sm, no⟩ := need k hk
    exact ⟨(hold _ _ k lt).trans sm, by rintro (c | c | c) <;> first | exact no c | omega⟩
  · -- a round
    obtain ⟨O₀, j₀, hB, nl, nd, hl, hd⟩ := hi
    have room := (Array.getElem?_eq_some_iff.1 hl).1
    have roomD := (Array.getElem?_eq_some_iff.1 hd).1
    refine ⟨fn, _, assign, body, run_yield hl (hps x), roundIn_of_wpIn trivial (assigned _ pre x O₀ W _ j₀ hx fun a' O₁ W₁ mv₁ ax => ?_)⟩
    have nl₁ : ¬ O₁ (w.heap.size + 1) := fun c => nl (mv₁.own _ room c)
    have nd₁ : ¬ O₁ w.heap.size := fun c => nd (mv₁.own _ roomD c)
    have hl₁ := (mv₁.same _ room nl).trans hl
    have hd₁ := (mv₁.same _ roomD nd).trans hd
    have room₁ := (Array.getElem?_eq_some_iff.1 hl₁).1
    have roomD₁ := (Array.getElem?_eq_some_iff.1 hd₁).1
    refine ⟨_, run_beginRound hl₁ rfl, wpIn_mono (round _ pre x a' O₁ _ ((hAx pre x a').turn (s := ()) _ nl₁ ax) (by simpa using room₁) nl₁ hx) fun e a₃ W₃ left => ?_⟩
    -- whichever way it is left, the record is turned once more
    have close : ∀ (j : Option Code) (O₂ : Nat → Prop) (I₂ : (Nat → Prop) → World → Prop), Moves O₁ (W₁.putObj (w.heap.size + 1) (.loop { R .ready none with state := .busy })) O₂ W₃ → I₂ O₂ (W₃.putObj (w.heap.size + 1) (.loop (R (if j.isNone then .ready else .done) j))) →
        (Instr.endRound (w.heap.size + 1) j).run P W₃ = .ok (.bool j.isNone) (W₃.putObj (w.heap.size + 1) (.loop (R (if j.isNone then .ready else .done) j))) ∧
        ∃ B', Moves B W B' (W₃.putObj (w.heap.size + 1) (.loop (R (if j.isNone then .ready else .done) j))) ∧
          Beside (w.heap.size + 1) w.heap.size (.loop (R (if j.isNone then .ready else .done) j)) I₂ B' (W₃.putObj (w.heap.size + 1) (.loop (R (if j.isNone then .ready else .done) j))) := by
      intro j O₂ I₂ mv i₂
      have hl₃ := (mv.same _ (by simpa using room₁) nl₁).trans (World.putObj_heap_same room₁)
      have hd₃ := (mv.same w.heap.size (by simpa using roomD₁) nd₁).trans ((World.putObj_heap_other (by omega)).trans hd₁)
      have nl₂ : ¬ O₂ (w.heap.size + 1) := fun c => nl₁ (mv.own _ (by simpa using room₁) c)
      have nd₂ : ¬ O₂ w.heap.size := fun c => nd₁ (mv.own _ (by simpa using roomD₁) c)
      have sz₁ : W₁.heap.size = (W₁.putObj (w.heap.size + 1) (.loop { R .ready none with state := .busy })).heap.size := by simp
      refine ⟨run_endRound j hl₃, fun k => O₂ k ∨ k = w.heap.size + 1 ∨ k = w.heap.size, ?_, O₂, i₂, fun k => Iff.rfl, nl₂, nd₂, World.putObj_heap_same (Array.getElem?_eq_some_iff.1 hl₃).1, (World.putObj_heap_other (by omega)).trans hd₃⟩
      refine ⟨mv.os.trans mv₁.os, mv.tape.trans mv₁.tape, mv.output.trans mv₁.output, ?_, fun k hk no => ?_, fun k hk c => (hB k).2 ?_⟩
      · have := mv.size; have := mv₁.size; simp at *; omega
      · have kl : k ≠ w.heap.size + 1 := fun e => no ((hB k).2 (.inr (.inl e)))
        have kO : ¬ O₀ k := fun c => no ((hB k).2 (.inl c))
        have k₁ : k < W₁.heap.size := Nat.lt_of_lt_of_le hk mv₁.size
        exact (World.putObj_heap_other kl).trans ((mv.same k (by rw [← sz₁]; exact k₁) (fun c => kO (mv₁.own k hk c))).trans ((World.putObj_heap_other kl).trans (mv₁.same k hk kO)))
      · exact c.imp (fun c => mv₁.own k hk (mv.own k (by rw [← sz₁]; exact Nat.lt_of_lt_of_le hk mv₁.size) c)) id
    have out : ∀ (j : Option Code) (O₂ : Nat → Prop), Moves O₁ (W₁.putObj (w.heap.size + 1) (.loop { R .ready none with state := .busy })) O₂ W₃ → ¬ O₂ (w.heap.size + 1) := fun j O₂ mv c => nl₁ (mv.own _ (by simpa using room₁) c)
    cases e with
    | normal =>
      obtain ⟨O₂, mv, j₂⟩ := left
      obtain ⟨run, B', mvB, be⟩ := close none O₂ (J (pre ++ [x])) mv (hJ.turn _ (out none O₂ mv) j₂)
      exact ⟨_, _, run, B', mvB, .inl ⟨rfl, be⟩⟩
    | ret =>
      obtain ⟨O₂, mv, j₂⟩ := left
      obtain ⟨run, B', mvB, be⟩ := close (some .ret) O₂ (Jx .ret (pre ++ [x])) mv ((hJx _).turn _ (out none O₂ mv) j₂)
      exact ⟨_, _, run, B', mvB, .inr ⟨rfl, _, be⟩⟩
    | exit id =>
      obtain ⟨O₂, mv, j₂⟩ := left
      obtain ⟨run, B', mvB, be⟩ := close (some (.exit id)) O₂ (Jx (.exit id) (pre ++ [x])) mv ((hJx _).turn _ (out none O₂ mv) j₂)
      exact ⟨_, _, run, B', mvB, .inr ⟨rfl, _, be⟩⟩
    | goto t =>
      obtain ⟨O₂, mv, j₂⟩ := left
      obtain ⟨run, B', mvB, be⟩ := close (some (.goto t)) O₂ (Jx (.goto t) (pre ++ [x])) mv ((hJx _).turn _ (out none O₂ mv) j₂)
      exact ⟨_, _, run, B', mvB, .inr ⟨rfl, _, be⟩⟩
    | panic c => exact left.elim
    | outgrown => exact left.elim
  · -- behind the iterator
    rintro e W ⟨⟨v, rfl⟩, B, mv, fin⟩
    have back : ∀ (O' : Nat → Prop) (r : Loop), (∀ k, B k ↔ O' k ∨ k = w.heap.size + 1 ∨ k = w.heap.size) → Moves O w O' (W.putObj (w.heap.size + 1) (.loop r)) := by
      intro O' r hB
      have sz := mv.size
      simp only [World.size_alloc] at sz
      refine ⟨mv.os, mv.tape, mv.output, by simp; omega, fun k hk no => ?_, fun k hk c => ?_⟩
      · exact (World.putObj_heap_other (by omega)).trans ((mv.same k (by simp; omega) (by rintro (c | c | c) <;> first | exact no c | omega)).trans (hold _ _ k hk))
      · rcases mv.own k (by simp; omega) ((hB k).2 (.inl c)) with c | c | c <;> first | exact c | omega
    rcases fin with ⟨O', j, hB, nl, nd, hl, hd⟩ | ⟨pre, hp, c, O', j, hB, nl, nd, hl, hd⟩
    · exact ⟨none, _, run_endLoop hl (by simp [R]), done _ O' _ (Nat.le_refl _) nd (hJ.turn _ nl j) (back O' _ hB) ((World.putObj_heap_other (by omega)).trans hd)⟩
    · exact ⟨some c, _, run_endLoop hl (by simp [R]), stop _ c pre O' _ (Nat.le_refl _) nd hp ((hJx c).turn _ nl j) (back O' _ hB) ((World.putObj_heap_other (by omega)).trans hd)⟩
end
end Go.Proofs.YtmjehpigfkobeaaDoor
