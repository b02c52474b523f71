/-
  The reference's FindOf and HasInt: exact.
  The reference's FindOf, told where what it answers lies.
-/
import Derived.Test.YtnfjpngmadoflaaGreatDoorNBSFlI
import Derived.Test.YtnfjpngmadoflaaGreatDoorNAppAny
import Derived.Test.YtnfjpngmadoflaaGreatDoorNBFlatL
namespace Go.Proofs.YtnfjpngmadoflaaGreatDoor
open Go.RowKit
/-- What FindOf answers. -/
def FoundR (t : Tr) (id : Int) (e : Ending) : Prop :=
  (∃ (i : Nat) (h : i < (fl t).length) (a' : Option Addr) (c' : Nat), (fl t)[i].t.id = id ∧ (∀ j (h' : j < (fl t).length), j < i → (fl t)[j].t.id ≠ id) ∧ e = .returned (.tuple #[nodeV (fl t)[i].t a' c', .bool true])) ∨
  ((∀ p ∈ fl t, p.t.id ≠ id) ∧ e = .returned (.tuple #[.agg #[.int .i64 0, .string ⟨#[]⟩, .int .i64 0, .int .i64 0, .slice none 0 0], .bool false]))
end Go.Proofs.YtnfjpngmadoflaaGreatDoor

namespace Go.Proofs.YtnfjpngmadoflaaGreatDoor
open Go.RowKit
/-- What FindOf answers. -/
def FoundN (P : Nat → Prop) (t : Tr) (id : Int) (e : Ending) (w : World) : Prop :=
  (∃ (i : Nat) (h : i < (fl t).length) (a' : Option Addr) (c' : Nat), (fl t)[i].t.id = id ∧ (∀ j (h' : j < (fl t).length), j < i → (fl t)[j].t.id ≠ id) ∧ e = .returned (.tuple #[nodeV (fl t)[i].t a' c', .bool true]) ∧ LiesN w P a' (fl t)[i].t.sub ∧ (fl t)[i].t.sub.length ≤ c') ∨
  ((∀ p ∈ fl t, p.t.id ≠ id) ∧ e = .returned (.tuple #[.agg #[.int .i64 0, .string ⟨#[]⟩, .int .i64 0, .int .i64 0, .slice none 0 0], .bool false]))
/-- .. wherever it lies. -/
def FoundL (t : Tr) (id : Int) (e : Ending) (w : World) : Prop := FoundN (fun _ => True) t id e w
end Go.Proofs.YtnfjpngmadoflaaGreatDoor
