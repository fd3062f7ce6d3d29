/- Three list laws of the library under short names. -/
import Derived.Test.YtdooiflmjeibdaaGreatDoorRows
namespace Go.Proofs.YtdooiflmjeibdaaGreatDoor
theorem sjA {α : Type} (l : List α) (i : Nat) (a : α) : l.toArray.setIfInBounds i a = (l.set i a).toArray := List.setIfInBounds_toArray l i a
theorem sjB {α : Type} {x : α} {xs : List α} {a : α} : (x :: xs).set 0 a = a :: xs := rfl
theorem sjC {α : Type} {x : α} {xs : List α} {i : Nat} {a : α} : (x :: xs).set (i + 1) a = x :: xs.set i a := rfl
end Go.Proofs.YtdooiflmjeibdaaGreatDoor
