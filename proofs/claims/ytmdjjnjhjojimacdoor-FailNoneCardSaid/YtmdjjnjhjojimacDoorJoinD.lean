import Derived.Test.YtmdjjnjhjojimacDoorJoinC
import Derived.Test.YtmdjjnjhjojimacDoorFailF
namespace Go.Proofs.YtmdjjnjhjojimacDoor
open Go.RowKit Go.Extern.Stop Go.Stop Go.Extern

/-- A place b around a joined error jb of two numbers. -/
structure Both (w : World) (b jb r tt : Nat) (s : ByteArray) (c d : Int) : Prop where
  p0 : w.cell? ⟨b, 0, none⟩ = some (.string s)
  p1 : w.cell? ⟨b, 1, none⟩ = some (.iface 56 (.pointer (some ⟨jb, 0, none⟩)))
  j0 : w.cell? ⟨jb, 0, none⟩ = some (.slice (some ⟨r, 0, none⟩) 2 tt)
  r0 : w.cell? ⟨r, 0, none⟩ = some (errno c)
  r1 : w.cell? ⟨r, 1, none⟩ = some (errno d)

theorem Both.below {w w' : World} {b jb r tt : Nat} {s : ByteArray} {c d : Int} (h : Both w b jb r tt s c d) (hb : Below w.heap.size w w') : Both w' b jb r tt s c d :=
  ⟨(hb.cell (p := ⟨b, 0, none⟩) (World.block_lt_of_cell? w _ h.p0)).trans h.p0, (hb.cell (p := ⟨b, 1, none⟩) (World.block_lt_of_cell? w _ h.p1)).trans h.p1,
   (hb.cell (p := ⟨jb, 0, none⟩) (World.block_lt_of_cell? w _ h.j0)).trans h.j0, (hb.cell (p := ⟨r, 0, none⟩) (World.block_lt_of_cell? w _ h.r0)).trans h.r0,
   (hb.cell (p := ⟨r, 1, none⟩) (World.block_lt_of_cell? w _ h.r1)).trans h.r1⟩

theorem eql56_31 (v u : Value) (w : World) : (binOp .eql 32 (.iface 56 v) (.iface 30 u)).run Tryd.prog w = .ok (.bool false) w := by kernel_rfl
theorem ta56_31 (v : Value) (x : TypeId) (w : World) : (Instr.typeAssert (.iface 56 v) x 30 true).run Tryd.prog w = .ok (.tuple #[.int .i64 0, .bool false]) w := by kernel_rfl
theorem ta56_99 (v : Value) (x : TypeId) (w : World) : (Instr.typeAssert (.iface 56 v) x 60 true).run Tryd.prog w = .ok (.tuple #[.pointer none, .bool false]) w := by kernel_rfl

theorem at_join (s : ByteArray) (jb : Nat) (w : World) : Calls Tryd.prog 9 #[.string s, .iface 56 (.pointer (some ⟨jb, 0, none⟩))] w fun e w' => e = .returned (placeV w.heap.size) ∧ w' = w.alloc (.cells #[.string s, .iface 56 (.pointer (some ⟨jb, 0, none⟩))] 62) := by
  have hta := ta56_31
  go_enter Tryd.func9, Tryd.ntmps9
  go_wp2
  go_ret
  exact ⟨rfl, rfl⟩

set_option maxRecDepth 100000 in
set_option maxHeartbeats 1000000 in
theorem is_join (c d m : Int) {b jb r tt : Nat} {s : ByteArray} {w : World} (h : Both w b jb r tt s c d) :
    Calls Tryd.prog 44 #[placeV b, errno m, .bool true] w fun ev w' => ev = .returned (.bool (c == m || d == m)) ∧ w' = w := by
  have f3 := eql99_31
  have f3' := eql56_31
  have f5 := noIs99
  have f5' := noIs56
  have f7 := mUnwrap
  have f7' := mUnwraps
  have f9 := hasUn99
  have f9' := noUn56
  have f9'' := hasUns56
  have k1 := h.p1
  have k2 := h.j0
  have k3 := h.r0
  have k4 := h.r1
  clear h
  go_enter Tryd.func44, Tryd.ntmps44
  go_wp2
  refine wp_loop_rounds 2 ?_
  rw [rounds_succ]
  go_wp2
  rw [rounds_succ]
  go_wp2_with (go_at_call 93; refine (unwraps_any jb r tt _ k2).mono ?_; rintro e w' ⟨rfl, hw⟩; obtain rfl := hw.symm; clear hw)
  clear f3 f3' f5 f5' f7 f7' f9 f9' f9''
  refine wp_loop_rounds 3 ?_
  rw [rounds_succ]
  go_wp2_with fail
  refine (is_chain c m [] _ _ rfl).mono ?_
  rintro e w2 ⟨rfl, hw⟩
  obtain rfl := hw.symm
  clear hw
  by_cases hcm : c = m
  · have hb : (c == m) = true := by simpa using hcm
    clear hcm
    rw [hb]
    go_wp2
    go_ret
    exact ⟨by rw [hb]; rfl, rfl⟩
  · have hb : (c == m) = false := by simpa using hcm
    clear hcm
    rw [hb]
    go_wp2
    rw [rounds_succ]
    go_wp2_with fail
    refine (is_chain d m [] _ _ rfl).mono ?_
    rintro e w2 ⟨rfl, hw⟩
    obtain rfl := hw.symm
    clear hw
    by_cases hdm : d = m
    · have hb2 : (d == m) = true := by simpa using hdm
      clear hdm
      rw [hb2]
      go_wp2
      go_ret
      exact ⟨by rw [hb, hb2]; rfl, rfl⟩
    · have hb2 : (d == m) = false := by simpa using hdm
      clear hdm
      rw [hb2]
      go_wp2
      rw [rounds_succ]
      go_wp2
      go_ret
      exact ⟨by rw [hb, hb2]; rfl, rfl⟩

set_option maxRecDepth 100000 in
set_option maxHeartbeats 1000000 in
theorem Is_join (c d m : Int) {b jb r tt : Nat} {s : ByteArray} {w : World} (h : Both w b jb r tt s c d) :
    Calls Tryd.prog 27 #[placeV b, errno m] w fun ev w' => ev = .returned (.bool (c == m || d == m)) ∧ w' = w := by
  have h68 := @run_callFunc_extern Tryd.prog 43 _ ReflectliteType.typeOf Tryd.func43 (by kernel_rfl) (by kernel_rfl) (by kernel_rfl) (by kernel_rfl)
  have f1 := typeOf31
  have f2 := comp31
  have f3 := mComp
  have HK : Hid (Calls Tryd.prog 44 _ _ _) := is_join c d m h
  clear h
  go_enter Tryd.func27, Tryd.ntmps27
  go_wp2_with (go_at_call 44; refine HK.out.mono ?_; rintro e w' ⟨rfl, rfl⟩)
  go_ret
  exact ⟨rfl, rfl⟩

set_option maxRecDepth 100000 in
set_option maxHeartbeats 1000000 in
theorem fis_join (c d m : Int) {b jb r tt : Nat} {s : ByteArray} {w : World} (h : Both w b jb r tt s c d) (hm : (m == 0) = false) :
    Calls Tryd.prog 11 #[placeV b, .int .i64 m] w fun ev w' => ev = .returned (.bool (c == m || d == m)) ∧ Below w.heap.size w w' := by
  have hmf : ∀ (fn : Fn) (first cap : Array Value) (w : World), (Instr.makeFunc fn first cap).run Tryd.prog w = .ok (.func fn first cap) w := fun _ _ _ _ => rfl
  have HK : Hid (Calls Tryd.prog 27 _ _ _) := Is_join c d m (h.below ((Below.refl _ w).alloc (Nat.le_refl _) (.cells #[.bool false] 4)))
  clear h
  go_enter_defers Tryd.func11, Tryd.ntmps11
  go_wp2_with (go_at_call 27; refine HK.out.mono ?_; rintro e w1 ⟨rfl, rfl⟩)
  refine leaves_cons (f := 26) (args := #[.pointer (some ⟨w.heap.size, 0, none⟩)]) (by simp) (by simp [go_sem]) ?_
  refine (is_idle ⟨w.heap.size, 0, none⟩ _).mono ?_
  rintro e u' w'' ⟨rfl, rfl, rfl⟩
  have hB : Below w.heap.size w (w.alloc (.cells #[.bool (c == m || d == m)] 4)) := (Below.refl _ w).alloc (Nat.le_refl _) _
  simp [Leaves, settle, results, Tryd.results11, go_sem, hB]

set_option maxRecDepth 100000 in
theorem fis_nilc (m : Int) (w : World) (hm : (m == 0) = false) : Calls Tryd.prog 11 #[.nilIface, .int .i64 m] w fun ev w' => ev = .returned (.bool false) ∧ Below w.heap.size w w' := by
  have hmf : ∀ (fn : Fn) (first cap : Array Value) (w : World), (Instr.makeFunc fn first cap).run Tryd.prog w = .ok (.func fn first cap) w := fun _ _ _ _ => rfl
  go_enter_defers Tryd.func11, Tryd.ntmps11
  go_wp2_with (go_at_call 27; refine (Is_nil m _).mono ?_; rintro e w1 ⟨rfl, rfl⟩)
  refine leaves_cons (f := 26) (args := #[.pointer (some ⟨w.heap.size, 0, none⟩)]) (by simp) (by simp [go_sem]) ?_
  refine (is_idle ⟨w.heap.size, 0, none⟩ _).mono ?_
  rintro e u' w'' ⟨rfl, rfl, rfl⟩
  have hB : Below w.heap.size w (w.alloc (.cells #[.bool false] 4)) := (Below.refl _ w).alloc (Nat.le_refl _) _
  simp [Leaves, settle, results, Tryd.results11, go_sem, hB]
end Go.Proofs.YtmdjjnjhjojimacDoor
