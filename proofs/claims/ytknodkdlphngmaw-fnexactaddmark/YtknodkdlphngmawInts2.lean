/- The contract of the laws' own copying of a row of ints. -/
import Derived.Test.YtknodkdlphngmawInts1
import Derived.Laws.MakeOwn
namespace Go.Proofs.Ytknodkdlphngmaw
open Go.RowKit
open Doc1

/-- A slice of ints as it came in. -/
inductive ArgI (W : World) : Value → List Int → Prop
  | nil (a : Option Addr) (cap : Nat) : ArgI W (.slice a 0 cap) []
  | row (b off cap : Nat) (p : List Int) (hb : b < W.heap.size) (hn : 0 < p.length) (hle : p.length ≤ cap) (hm : cap ≤ maxLen) (hc : ∀ j (h : j < p.length), W.cell? ⟨b, off + j, none⟩ = some (.int .i64 p[j])) : ArgI W (.slice (some ⟨b, off, none⟩) p.length cap) p
theorem ArgI.later {W W1 : World} {v : Value} {p : List Int} (h : ArgI W v p) (hb : Below W.heap.size W W1) : ArgI W1 v p := by
  cases h with
  | nil a cap => exact .nil a cap
  | row b off cap p h1 h2 h3 h4 h5 => exact .row b off cap p (Nat.lt_of_lt_of_le h1 hb.size) h2 h3 h4 (fun j hj => (World.cell?_of_block (hb.block b h1)).trans (h5 j hj))

end Go.Proofs.Ytknodkdlphngmaw
