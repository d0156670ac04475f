import Derived.Test.YtmdjjnjhjojimaaDoorBinG
namespace Go.Proofs.YtmdjjnjhjojimaaDoor
open Go.RowKit Go.Maps

/-- A Reader in memory: what is left of its bytes, its error. -/
structure RdAt (w : World) (rb : Nat) (s : List UInt8) (a : Option Addr) (c : Nat) (err : Int) : Prop where
  c0 : w.cell? ⟨rb, 0, none⟩ = some (.slice a s.length c)
  c1 : w.cell? ⟨rb, 1, none⟩ = some (.int .i64 err)
  f : ∀ o, w.frozen? ⟨rb, o, none⟩ = false
  sh : (a = none ∧ s = []) ∨ ∃ g o, a = some ⟨g, o, none⟩ ∧ g ≠ rb ∧ w.rangeAt g o (bytesV s)
  hc : s.length ≤ c
  hl : s.length ≤ 1000000000
theorem RdAt.lt {w : World} {rb : Nat} {s : List UInt8} {a : Option Addr} {c : Nat} {err : Int} (h : RdAt w rb s a c err) : rb < w.heap.size := World.block_lt_of_cell? w _ h.c0

theorem rerr_nil (w : World) : Calls Tryd.prog 34 #[.pointer none] w fun e w' => e = .returned (.int .i64 1) ∧ w' = w := by
  go_enter Tryd.func34, Tryd.ntmps34
  go_wp2
  go_ret
  exact ⟨rfl, rfl⟩
theorem rerr_cell (rb : Nat) (err : Int) (w : World) (c1 : w.cell? ⟨rb, 1, none⟩ = some (.int .i64 err)) : Calls Tryd.prog 34 #[.pointer (some ⟨rb, 0, none⟩)] w fun e w' => e = .returned (.int .i64 err) ∧ w' = w := by
  go_enter Tryd.func34, Tryd.ntmps34
  go_wp2
  go_ret
  exact ⟨rfl, rfl⟩
theorem rfail_any (rb : Nat) (v u : Value) (w : World) (c0 : w.cell? ⟨rb, 0, none⟩ = some v) (c1 : w.cell? ⟨rb, 1, none⟩ = some u) (f : ∀ o, w.frozen? ⟨rb, o, none⟩ = false) :
    Calls Tryd.prog 54 #[.pointer (some ⟨rb, 0, none⟩)] w fun e w' => e = .returned (.tuple #[]) ∧ w' = (w.setCell ⟨rb, 0, none⟩ (.slice none 0 0)).setCell ⟨rb, 1, none⟩ (.int .i64 1) := by
  have f0 := f 0
  have f1 := f 1
  clear f
  go_enter Tryd.func54, Tryd.ntmps54
  go_wp2
  go_end0
  exact ⟨rfl, rfl⟩
theorem rfail_at {w : World} {rb : Nat} {s : List UInt8} {a : Option Addr} {c : Nat} {err : Int} (h : RdAt w rb s a c err) :
    Calls Tryd.prog 54 #[.pointer (some ⟨rb, 0, none⟩)] w fun e w' => e = .returned (.tuple #[]) ∧ RdAt w' rb [] none 0 1 ∧ Keeps (fun i => i = rb) w w' := by
  refine (rfail_any rb _ _ w h.c0 h.c1 h.f).mono ?_
  rintro e w' ⟨rfl, rfl⟩
  refine ⟨rfl, ⟨?_, ?_, fun o => ?_, Or.inl ⟨rfl, rfl⟩, by simp, by simp⟩, ((Keeps.refl (fun i => i = rb) w).setCell (p := ⟨rb, 0, none⟩) rfl _).setCell (p := ⟨rb, 1, none⟩) rfl _⟩
  · rw [World.cell?_setCell_other _ _ _ _ (by simp), World.cell?_setCell_same _ _ _ h.c0]; rfl
  · rw [World.cell?_setCell_same _ _ _ (by rw [World.cell?_setCell_other _ _ _ _ (by simp)]; exact h.c1)]
  · rw [World.frozen?_setCell, World.frozen?_setCell]; exact h.f o

/-- What Int reads. -/
def rdInt (s : List UInt8) (err : Int) : Int × List UInt8 × Int :=
  if err = 0 then (match cutS s with | some (n, r) => (n, r, 0) | none => (0, [], 1)) else (0, s, err)

theorem RdAt.same {w w' : World} {rb : Nat} {s : List UInt8} {a : Option Addr} {c : Nat} {err : Int} (h : RdAt w rb s a c err) (k : Same w w') : RdAt w' rb s a c err :=
  { h with
    c0 := (k.cell _).trans h.c0
    c1 := (k.cell _).trans h.c1
    f := fun o => (k.frozen _).trans (h.f o)
    sh := by
      rcases h.sh with x | ⟨g, o, x, y, z⟩
      · exact Or.inl x
      · exact Or.inr ⟨g, o, x, y, k.range z⟩ }

/-- Int, where cutInt finds none. -/
theorem rint_bad {w : World} {rb : Nat} {s : List UInt8} {a : Option Addr} {c : Nat} (h : RdAt w rb s a c 0)
    (hcut : Calls Tryd.prog 53 #[.slice a s.length c] w fun e w' => e = .returned (.tuple #[.int .i64 0, .slice none 0 0, .bool false]) ∧ Same w w') :
    Calls Tryd.prog 33 #[.pointer (some ⟨rb, 0, none⟩)] w fun e w' => e = .returned (.int .i64 0) ∧ RdAt w' rb [] none 0 1 ∧ Keeps (fun i => i = rb) w w' := by
  have c0 := h.c0
  have H : Hid (Calls Tryd.prog 53 #[.slice a s.length c] w fun e w' => e = .returned (.tuple #[.int .i64 0, .slice none 0 0, .bool false]) ∧ Same w w') := hcut
  clear hcut
  go_enter Tryd.func33, Tryd.ntmps33
  go_wp2_with (first
    | (go_at_call 34; refine (rerr_cell rb 0 _ h.c1).mono ?_; rintro e w' ⟨rfl, hw⟩; obtain rfl := hw.symm)
    | (go_at_call 53; refine H.out.mono ?_; rintro e w1 ⟨rfl, hs1⟩)
    | (go_at_call 54; refine (rfail_at (h.same hs1)).mono ?_; rintro e w2 ⟨rfl, h2, hk2⟩))
  go_ret
  exact ⟨rfl, h2, (hs1.keeps _).trans hk2⟩

theorem rint_err {w : World} {rb : Nat} {s : List UInt8} {a : Option Addr} {c : Nat} {err : Int} (h : RdAt w rb s a c err) (he : err ≠ 0) :
    Calls Tryd.prog 33 #[.pointer (some ⟨rb, 0, none⟩)] w fun e w' => e = .returned (.int .i64 0) ∧ w' = w := by
  have hne : (err != 0) = true := by simpa using he
  clear he
  go_enter Tryd.func33, Tryd.ntmps33
  go_wp2_with (go_at_call 34; refine (rerr_cell rb err _ h.c1).mono ?_; rintro e w' ⟨rfl, hw⟩; obtain rfl := hw.symm)
  go_ret
  exact ⟨rfl, rfl⟩

theorem rint_yes {w : World} {rb : Nat} {s : List UInt8} {a : Option Addr} {c : Nat} (h : RdAt w rb s a c 0) (n : Int) (g l c' : Nat) (R : Nat → Prop)
    (hcut : Calls Tryd.prog 53 #[.slice a s.length c] w fun e w' => ∃ o3, e = .returned (.tuple #[.int .i64 n, .slice (some ⟨g, o3, none⟩) l c', .bool true]) ∧ Same w w' ∧ R o3) :
    Calls Tryd.prog 33 #[.pointer (some ⟨rb, 0, none⟩)] w fun e w' => ∃ o3 w1, e = .returned (.int .i64 n) ∧ Same w w1 ∧ w' = w1.setCell ⟨rb, 0, none⟩ (.slice (some ⟨g, o3, none⟩) l c') ∧ R o3 := by
  have c0 := h.c0
  have H : Hid (Calls Tryd.prog 53 #[.slice a s.length c] w fun e w' => ∃ o3, e = .returned (.tuple #[.int .i64 n, .slice (some ⟨g, o3, none⟩) l c', .bool true]) ∧ Same w w' ∧ R o3) := hcut
  clear hcut
  go_enter Tryd.func33, Tryd.ntmps33
  go_wp2_with (first
    | (go_at_call 34; refine (rerr_cell rb 0 _ h.c1).mono ?_; rintro e w' ⟨rfl, hw⟩; obtain rfl := hw.symm)
    | (go_at_call 53; refine H.out.mono ?_; rintro e w1 ⟨o3, rfl, hs1, hR⟩; have d0 := (h.same hs1).c0; have d1 := (h.same hs1).f 0))
  go_ret
  exact ⟨o3, w1, rfl, hs1, rfl, hR⟩
end Go.Proofs.YtmdjjnjhjojimaaDoor
