import Derived.Test.YtlmdeafmlommeaaGreatDoorProg
import Derived.WalkKit
import Derived.WalkSpells
import Derived.WalkLawsBesides
import Derived.Maps.OwnSet
import Derived.Deep.MidRow
namespace Go.Proofs.YtlmdeafmlommeaaGreatDoor
open Go.RowKit Go.Maps

theorem down_any (db : Nat) (b : Bool) (w : World) (h3 : w.cell? ⟨db, 3, none⟩ = some (.bool b)) :
    Calls Tryz.prog 45 #[.pointer (some ⟨db, 0, none⟩)] w fun e w' => e = .returned (.bool b) ∧ w' = w := by
  go_enter Tryz.func45, Tryz.ntmps45
  go_wp2
  go_ret
  exact ⟨rfl, rfl⟩

theorem down_nil (w : World) :
    Calls Tryz.prog 45 #[.pointer none] w fun e w' => e = .returned (.bool true) ∧ w' = w := by
  go_enter Tryz.func45, Tryz.ntmps45
  go_wp2
  go_ret
  exact ⟨rfl, rfl⟩

theorem has_yes (db nb cap n : Nat) (i : Int) (w : World) (h0 : w.cell? ⟨db, 0, none⟩ = some (.slice (some ⟨nb, 0, none⟩) n cap)) (hi : 0 ≤ i) (hn : i < n) :
    Calls Tryz.prog 58 #[.pointer (some ⟨db, 0, none⟩), .int .i64 i] w fun e w' => e = .returned (.bool true) ∧ w' = w := by
  go_enter Tryz.func58, Tryz.ntmps58
  go_wp2
  go_ret
  exact ⟨by simp, rfl⟩
theorem has_no (db nb cap n : Nat) (i : Int) (w : World) (h0 : w.cell? ⟨db, 0, none⟩ = some (.slice (some ⟨nb, 0, none⟩) n cap)) (hi : i < 0 ∨ n ≤ i) :
    Calls Tryz.prog 58 #[.pointer (some ⟨db, 0, none⟩), .int .i64 i] w fun e w' => e = .returned (.bool false) ∧ w' = w := by
  rcases hi with hi | hi
  · go_enter Tryz.func58, Tryz.ntmps58
    go_wp2
    go_ret
    exact ⟨rfl, rfl⟩
  · have h0' : 0 ≤ i := by omega
    go_enter Tryz.func58, Tryz.ntmps58
    go_wp2
    go_ret
    exact ⟨by simp [hi], rfl⟩

theorem burn_zero (db : Nat) (w : World) (h2 : w.cell? ⟨db, 2, none⟩ = some (.int .i64 0)) :
    Calls Tryz.prog 59 #[.pointer (some ⟨db, 0, none⟩)] w fun e w' => e = .returned (.tuple #[]) ∧ w' = w := by
  go_enter Tryz.func59, Tryz.ntmps59
  go_wp2
  first | go_end0 | refine bodyPost_ret (results_none rfl _ _ _) rfl ?_
  exact ⟨rfl, rfl⟩
theorem burn_some (db : Nat) (l : Int) (b : Bool) (w : World) (h2 : w.cell? ⟨db, 2, none⟩ = some (.int .i64 l)) (h3 : w.cell? ⟨db, 3, none⟩ = some (.bool b)) (f2 : w.frozen? ⟨db, 2, none⟩ = false) (f3 : w.frozen? ⟨db, 3, none⟩ = false) (hl : (l == 0) = false) (hl0 : 0 ≤ l) (hl1 : l ≤ 9223372036854775807) :
    Calls Tryz.prog 59 #[.pointer (some ⟨db, 0, none⟩)] w fun e w' => e = .returned (.tuple #[]) ∧ w' = (w.setCell ⟨db, 2, none⟩ (.int .i64 (l - 1))).setCell ⟨db, 3, none⟩ (.bool (l - 1 == 0)) := by
  go_enter Tryz.func59, Tryz.ntmps59
  go_wp2
  go_end0
  exact ⟨rfl, rfl⟩

theorem holding_any (nb n cap : Nat) (w : World) :
    Calls Tryz.prog 35 #[.slice (some ⟨nb, 0, none⟩) n cap] w fun e w' => e = .returned (.pointer (some ⟨w.heap.size + 1, 0, none⟩)) ∧ w' = (w.alloc (.map #[] 0)).alloc (.cells #[.slice (some ⟨nb, 0, none⟩) n cap, .map (some w.heap.size), .int .i64 0, .bool false] 88) := by
  have hmm := @run_makeMap Tryz.prog
  go_enter Tryz.func35, Tryz.ntmps35
  go_wp2
  go_ret
  exact ⟨rfl, rfl⟩
end Go.Proofs.YtlmdeafmlommeaaGreatDoor
