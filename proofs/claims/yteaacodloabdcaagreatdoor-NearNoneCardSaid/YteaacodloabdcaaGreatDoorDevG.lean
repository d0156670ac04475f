import Derived.Test.YteaacodloabdcaaGreatDoorDevC
namespace Go.Proofs.YteaacodloabdcaaGreatDoor
open Go.RowKit Go.Maps

theorem write_nil (i : Int) (b : Value) (w : World) : Calls Tryz.prog 154 #[.pointer none, .int .i64 i, b] w fun e w' => e = .returned (.int .i64 9) ∧ w' = w := by
  go_enter Tryz.func154, Tryz.ntmps154
  go_wp2_with (go_at_call 176; refine (down_nil _).mono ?_; rintro e w' ⟨rfl, hw⟩; obtain rfl := hw.symm)
  go_ret
  exact ⟨rfl, rfl⟩
theorem flush_nil (w : World) : Calls Tryz.prog 157 #[.pointer none] w fun e w' => e = .returned (.int .i64 9) ∧ w' = w := by
  go_enter Tryz.func157, Tryz.ntmps157
  go_wp2_with (go_at_call 176; refine (down_nil _).mono ?_; rintro e w' ⟨rfl, hw⟩; obtain rfl := hw.symm)
  go_ret
  exact ⟨rfl, rfl⟩
theorem sectors_nil (w : World) : Calls Tryz.prog 121 #[.pointer none] w fun e w' => e = .returned (.int .i64 0) ∧ w' = w := by
  go_enter Tryz.func121, Tryz.ntmps121
  go_wp2
  go_ret
  exact ⟨rfl, rfl⟩
theorem crash_nil (v : Value) (w : World) : Calls Tryz.prog 83 #[.pointer none, v] w fun e w' => e = .returned (.pointer none) ∧ w' = w := by
  go_enter Tryz.func83, Tryz.ntmps83
  go_wp2
  go_ret
  exact ⟨rfl, rfl⟩
theorem sectors_any {w : World} {db nb n cap : Nat} (h0 : w.cell? ⟨db, 0, none⟩ = some (.slice (some ⟨nb, 0, none⟩) n cap)) : Calls Tryz.prog 121 #[.pointer (some ⟨db, 0, none⟩)] w fun e w' => e = .returned (.int .i64 n) ∧ w' = w := by
  go_enter Tryz.func121, Tryz.ntmps121
  go_wp2
  go_ret
  exact ⟨rfl, rfl⟩
theorem write_down {w : World} {db : Nat} (c3 : w.cell? ⟨db, 3, none⟩ = some (.bool true)) (i : Int) (b : Value) : Calls Tryz.prog 154 #[.pointer (some ⟨db, 0, none⟩), .int .i64 i, b] w fun e w' => e = .returned (.int .i64 9) ∧ w' = w := by
  go_enter Tryz.func154, Tryz.ntmps154
  go_wp2_with (go_at_call 176; refine (down_any _ _ _ c3).mono ?_; rintro e w' ⟨rfl, hw⟩; obtain rfl := hw.symm)
  go_ret
  exact ⟨rfl, rfl⟩
theorem write_range {w : World} {db nb n cap : Nat} (c0 : w.cell? ⟨db, 0, none⟩ = some (.slice (some ⟨nb, 0, none⟩) n cap)) (c3 : w.cell? ⟨db, 3, none⟩ = some (.bool false)) (i : Int) (hi : i < 0 ∨ n ≤ i) (b : Value) : Calls Tryz.prog 154 #[.pointer (some ⟨db, 0, none⟩), .int .i64 i, b] w fun e w' => e = .returned (.int .i64 2) ∧ w' = w := by
  go_enter Tryz.func154, Tryz.ntmps154
  go_wp2_with (first
    | (go_at_call 176; refine (down_any _ _ _ c3).mono ?_; rintro e w' ⟨rfl, hw⟩; obtain rfl := hw.symm)
    | (go_at_call 177; refine (has_no _ _ _ _ _ _ c0 hi).mono ?_; rintro e w' ⟨rfl, hw⟩; obtain rfl := hw.symm))
  go_ret
  exact ⟨rfl, rfl⟩
theorem write_form {w : World} {db nb n cap : Nat} (c0 : w.cell? ⟨db, 0, none⟩ = some (.slice (some ⟨nb, 0, none⟩) n cap)) (c3 : w.cell? ⟨db, 3, none⟩ = some (.bool false)) (i : Int) (h0 : 0 ≤ i) (hi : i < n) (a : Option Addr) (l : Nat) (hl : ((l : Int) == 64) = false) (c : Nat) : Calls Tryz.prog 154 #[.pointer (some ⟨db, 0, none⟩), .int .i64 i, .slice a l c] w fun e w' => e = .returned (.int .i64 1) ∧ w' = w := by
  go_enter Tryz.func154, Tryz.ntmps154
  go_wp2_with (first
    | (go_at_call 176; refine (down_any _ _ _ c3).mono ?_; rintro e w' ⟨rfl, hw⟩; obtain rfl := hw.symm)
    | (go_at_call 177; refine (has_yes _ _ _ _ _ _ c0 h0 hi).mono ?_; rintro e w' ⟨rfl, hw⟩; obtain rfl := hw.symm))
  go_ret
  exact ⟨rfl, rfl⟩
theorem flush_down {w : World} {db : Nat} (c3 : w.cell? ⟨db, 3, none⟩ = some (.bool true)) : Calls Tryz.prog 157 #[.pointer (some ⟨db, 0, none⟩)] w fun e w' => e = .returned (.int .i64 9) ∧ w' = w := by
  go_enter Tryz.func157, Tryz.ntmps157
  go_wp2_with (go_at_call 176; refine (down_any _ _ _ c3).mono ?_; rintro e w' ⟨rfl, hw⟩; obtain rfl := hw.symm)
  go_ret
  exact ⟨rfl, rfl⟩
end Go.Proofs.YteaacodloabdcaaGreatDoor
