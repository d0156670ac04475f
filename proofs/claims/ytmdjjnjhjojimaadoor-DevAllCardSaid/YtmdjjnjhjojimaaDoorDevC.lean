import Derived.Test.YtmdjjnjhjojimaaDoorDevB
namespace Go.Proofs.YtmdjjnjhjojimaaDoor
open Go.RowKit Go.Maps

/-- n sectors of noughts, as cells. -/
def zrow (n : Nat) : Array Value := (bytesV (List.replicate (n * 64) 0)).toArray
theorem info80 : (Tryd.prog.info? 80).map (fun i => (i.zero, i.size, i.bytes)) = some (some (.agg (Array.replicate 64 (.int .u8 0))), 64, 64) := by kernel_rfl
theorem madeCells_rep (m n : Nat) (v : Value) (hm : 0 < m) : madeCells (Array.replicate m v) n = Array.replicate n v := by
  unfold madeCells
  apply Array.ext
  · simp
  · intro i h1 h2
    have : i % m < m := Nat.mod_lt _ hm
    simp [this]
theorem mk77 (n : Nat) (h : n ≤ 4096) (w : World) : (Instr.makeSlice 77 (.int .i64 n) (.int .i64 n)).run Tryd.prog w = .ok (.slice (some ⟨w.heap.size, 0, none⟩) n n) (w.alloc (.cells (zrow n) 80)) := by
  have hx := info80
  cases hq : Tryd.prog.info? 80 with
  | none => rw [hq] at hx; cases hx
  | some i =>
    rw [hq] at hx
    simp only [Option.map_some, Option.some.injEq, Prod.mk.injEq] at hx
    obtain ⟨h1, h2, h3⟩ := hx
    rw [run_make w 77 80 i _ Tryd.underlying77 hq h1 .i64 .i64 n n (by omega) (by omega) (by rw [h3]; omega) (by omega)]
    have e : madeCells (Value.agg (Array.replicate 64 (.int .u8 0))).cells ((n : Int).toNat * i.size) = zrow n := by
      show madeCells (Array.replicate 64 (.int .u8 0)) _ = _
      rw [madeCells_rep _ _ _ (by omega), h2]
      simp [zrow, bytesV, bV]
    rw [e]
    simp

theorem new_yes (n : Nat) (w : World) (h1 : 64 ≤ n) (h2 : n ≤ 4096) :
    Calls Tryd.prog 9 #[.int .i64 n] w fun e w' => e = .returned (.pointer (some ⟨w.heap.size + 1 + 1, 0, none⟩)) ∧
      w' = ((w.alloc (.cells (zrow n) 80)).alloc (.map #[] 0)).alloc (.cells #[.slice (some ⟨w.heap.size, 0, none⟩) n n, .map (some (w.heap.size + 1)), .int .i64 0, .bool false] 84) := by
  have hmk := fun w => mk77 n h2 w
  go_enter Tryd.func9, Tryd.ntmps9
  go_wp2_with (go_at_call 42; refine (holding_any _ _ _ _).mono ?_; rintro e w' ⟨rfl, rfl⟩)
  go_ret
  exact ⟨rfl, rfl⟩
theorem new_no (n : Int) (w : World) (h : n < 64 ∨ 4096 < n) :
    Calls Tryd.prog 9 #[.int .i64 n] w fun e w' => e = .returned (.pointer none) ∧ w' = w := by
  rcases h with h | h
  · go_enter Tryd.func9, Tryd.ntmps9
    go_wp2
    go_ret
    exact ⟨rfl, rfl⟩
  · have h' : ¬ n < 64 := by omega
    go_enter Tryd.func9, Tryd.ntmps9
    go_wp2
    go_ret
    exact ⟨rfl, rfl⟩

/-- What New leaves. -/
theorem new_dev (n : Nat) (w : World) (h1 : 64 ≤ n) (h2 : n ≤ 4096) :
    DevAt (((w.alloc (.cells (zrow n) 80)).alloc (.map #[] 0)).alloc (.cells #[.slice (some ⟨w.heap.size, 0, none⟩) n n, .map (some (w.heap.size + 1)), .int .i64 0, .bool false] 84))
      (w.heap.size + 1 + 1) w.heap.size (w.heap.size + 1) n n (List.replicate (n * 64) 0) 0 (.map []) 0 false := {
  c0 := by rw [World.cell?_alloc_at _ _ _ _ (by simp)]; rfl
  c1 := by rw [World.cell?_alloc_at _ _ _ _ (by simp)]; rfl
  c2 := by rw [World.cell?_alloc_at _ _ _ _ (by simp)]; rfl
  c3 := by rw [World.cell?_alloc_at _ _ _ _ (by simp)]; rfl
  f := fun o => by rw [World.frozen?_alloc_at _ _ _ _ (by simp)]
  now := by
    refine World.rangeAt_alloc (World.rangeAt_alloc ?_ _) _
    intro j v hv
    rw [cell_of_row _ _ (0 + j) (zrow n) 80 (0, 0) (heap_alloc_last w _)]
    simpa [zrow] using hv
  thr := by
    refine World.there_alloc (World.there_alloc ?_ _) _
    intro j hj
    refine ⟨?_, by simp⟩
    rw [cell_of_row _ _ (0 + j) (zrow n) 80 (0, 0) (heap_alloc_last w _)]
    simp [zrow, bytesV, hj]
  len := by simp
  was := by
    have := (World.ownsMap_made (w.alloc (.cells (zrow n) 80)) Tryd.prog 3 (secR (H := Unit))).alloc (.cells #[.slice (some ⟨w.heap.size, 0, none⟩) n n, .map (some (w.heap.size + 1)), .int .i64 0, .bool false] 84)
    simpa using this
  ne1 := by omega
  ne2 := by omega
  ne3 := by omega
  n1 := h1
  n2 := h2
  keys := fun x hx => by simp [intKeys] at hx
  l0 := by omega
  l1 := by omega }
end Go.Proofs.YtmdjjnjhjojimaaDoor
