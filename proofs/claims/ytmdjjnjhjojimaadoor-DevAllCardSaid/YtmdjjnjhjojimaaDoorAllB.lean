import Derived.Test.YtmdjjnjhjojimaaDoorAllA
import Derived.Test.YtmdjjnjhjojimaaDoorFailC
namespace Go.Proofs.YtmdjjnjhjojimaaDoor
open Go.RowKit Go.Maps

/-- A slice of sectors in memory: its block rb. -/
structure RowsAt (w : World) (Bad : Nat → Prop) (rb n : Nat) (X : Nat → List UInt8) : Prop where
  at_ : ∀ i, i < n → ∃ b c, w.cell? ⟨rb, i, none⟩ = some (.slice (some ⟨b, 0, none⟩) 64 c) ∧ b < w.heap.size ∧ ¬ Bad b ∧ w.rangeAt b 0 (bytesV (X i))
  fz : ∀ o, w.frozen? ⟨rb, o, none⟩ = false
  len : ∀ i, i < n → (X i).length = 64
  lt : rb < w.heap.size
theorem RowsAt.move {S Bad Bad' : Nat → Prop} {w w' : World} {rb n : Nat} {X : Nat → List UInt8} (h : RowsAt w Bad rb n X) (hk : Keeps S w w') (h1 : ¬ S rb) (hS : ∀ b, b < w.heap.size → S b ∨ Bad' b → Bad b) : RowsAt w' Bad' rb n X := {
  at_ := fun i hi => by
    obtain ⟨b, c, e, hl, hb, hr⟩ := h.at_ i hi
    refine ⟨b, c, (hk.cell (p := ⟨rb, i, none⟩) h.lt h1).trans e, Nat.lt_of_lt_of_le hl hk.size, fun x => hb (hS b hl (Or.inr x)), fun j v hv => (hk.cell (p := ⟨b, 0 + j, none⟩) hl (fun x => hb (hS b hl (Or.inl x)))).trans (hr j v hv)⟩
  fz := fun o => (hk.frozen (p := ⟨rb, o, none⟩) h.lt h1).trans (h.fz o)
  len := h.len
  lt := Nat.lt_of_lt_of_le h.lt hk.size }
theorem RowsAt.put {Bad : Nat → Prop} {w : World} {rb n : Nat} {X : Nat → List UInt8} (h : RowsAt w Bad rb n X) (hbad : Bad rb) (i : Nat) (hi : i < n) (s : List UInt8) (hs : s.length = 64) (g c : Nat) (hg : g < w.heap.size) (hgb : ¬ Bad g) (hr : w.rangeAt g 0 (bytesV s)) :
    RowsAt (w.setCell ⟨rb, i, none⟩ (.slice (some ⟨g, 0, none⟩) 64 c)) Bad rb n (upd X i s) := {
  at_ := fun j hj => by
    by_cases e : j = i
    · subst e
      obtain ⟨b0, c0, e0, _⟩ := h.at_ j hj
      refine ⟨g, c, World.cell?_setCell_same _ _ _ e0, by simpa [World.setCell] using hg, hgb, ?_⟩
      have hu : upd X j s j = s := by unfold upd; rw [if_pos rfl]
      rw [hu]
      intro k v hv
      rw [World.cell?_setCell_other _ _ _ _ (fun x => by cases x; exact hgb hbad)]
      exact hr k v hv
    · obtain ⟨b, c', e1, hl, hb, hr'⟩ := h.at_ j hj
      refine ⟨b, c', ?_, by simpa [World.setCell] using hl, hb, ?_⟩
      · rw [World.cell?_setCell_other _ _ _ _ (fun x => by cases x; exact e rfl)]; exact e1
      · have hu : upd X i s j = X j := by unfold upd; rw [if_neg e]
        rw [hu]
        intro k v hv
        rw [World.cell?_setCell_other _ _ _ _ (fun x => by cases x; exact hb hbad)]
        exact hr' k v hv
  fz := fun o => by rw [World.frozen?_setCell]; exact h.fz o
  len := fun j hj => by unfold upd; split; exact hs; exact h.len j hj
  lt := by simpa [World.setCell] using h.lt }

/-- The document's device in memory: its block r, its slices' blocks nb, sb, lb. Bad: blocks that no sector lies in. -/
structure RefAt (w : World) (Bad : Nat → Prop) (r nb sb lb n cn cs cl : Nat) (Now Safe : Nat → List UInt8) (Lz : Nat → Bool) (fuse : Int) (fused : Bool) : Prop where
  c0 : w.cell? ⟨r, 0, none⟩ = some (.slice (some ⟨nb, 0, none⟩) n cn)
  c1 : w.cell? ⟨r, 1, none⟩ = some (.slice (some ⟨sb, 0, none⟩) n cs)
  c2 : w.cell? ⟨r, 2, none⟩ = some (.slice (some ⟨lb, 0, none⟩) n cl)
  c3 : w.cell? ⟨r, 3, none⟩ = some (.int .i64 fuse)
  c4 : w.cell? ⟨r, 4, none⟩ = some (.bool fused)
  f : ∀ o, w.frozen? ⟨r, o, none⟩ = false
  now : RowsAt w Bad nb n Now
  safe : RowsAt w Bad sb n Safe
  lz : ∀ i, i < n → w.cell? ⟨lb, i, none⟩ = some (.bool (Lz i))
  lf : ∀ o, w.frozen? ⟨lb, o, none⟩ = false
  llt : lb < w.heap.size
  bad : Bad r ∧ Bad nb ∧ Bad sb ∧ Bad lb
  ne : r ≠ nb ∧ r ≠ sb ∧ r ≠ lb ∧ nb ≠ sb ∧ nb ≠ lb ∧ sb ≠ lb
  blt : ∀ b, Bad b → b < w.heap.size
  n1 : 64 ≤ n
  n2 : n ≤ 4096
  u0 : -100 ≤ fuse
  u1 : fuse ≤ 100
theorem RefAt.rlt {w : World} {Bad : Nat → Prop} {r nb sb lb n cn cs cl : Nat} {Now Safe : Nat → List UInt8} {Lz : Nat → Bool} {fuse : Int} {fused : Bool} (h : RefAt w Bad r nb sb lb n cn cs cl Now Safe Lz fuse fused) : r < w.heap.size := World.block_lt_of_cell? w _ h.c0
theorem RefAt.move {S Bad' : Nat → Prop} {w' : World} {w : World} {Bad : Nat → Prop} {r nb sb lb n cn cs cl : Nat} {Now Safe : Nat → List UInt8} {Lz : Nat → Bool} {fuse : Int} {fused : Bool} (h : RefAt w Bad r nb sb lb n cn cs cl Now Safe Lz fuse fused) (hk : Keeps S w w') (s1 : ¬ S r) (s2 : ¬ S nb) (s3 : ¬ S sb) (s4 : ¬ S lb) (hS : ∀ b, b < w.heap.size → S b ∨ Bad' b → Bad b) (hb : Bad' r ∧ Bad' nb ∧ Bad' sb ∧ Bad' lb) (hl : ∀ b, Bad' b → b < w'.heap.size) :
    RefAt w' Bad' r nb sb lb n cn cs cl Now Safe Lz fuse fused :=
  { h with
    c0 := (hk.cell (p := ⟨r, 0, none⟩) h.rlt s1).trans h.c0
    c1 := (hk.cell (p := ⟨r, 1, none⟩) h.rlt s1).trans h.c1
    c2 := (hk.cell (p := ⟨r, 2, none⟩) h.rlt s1).trans h.c2
    c3 := (hk.cell (p := ⟨r, 3, none⟩) h.rlt s1).trans h.c3
    c4 := (hk.cell (p := ⟨r, 4, none⟩) h.rlt s1).trans h.c4
    f := fun o => (hk.frozen (p := ⟨r, o, none⟩) h.rlt s1).trans (h.f o)
    now := h.now.move hk s2 hS
    safe := h.safe.move hk s3 hS
    lz := fun i hi => (hk.cell (p := ⟨lb, i, none⟩) h.llt s4).trans (h.lz i hi)
    lf := fun o => (hk.frozen (p := ⟨lb, o, none⟩) h.llt s4).trans (h.lf o)
    llt := Nat.lt_of_lt_of_le h.llt hk.size
    bad := hb
    blt := hl }
theorem RefAt.keeps {S : Nat → Prop} {w' : World} {w : World} {Bad : Nat → Prop} {r nb sb lb n cn cs cl : Nat} {Now Safe : Nat → List UInt8} {Lz : Nat → Bool} {fuse : Int} {fused : Bool} (h : RefAt w Bad r nb sb lb n cn cs cl Now Safe Lz fuse fused) (hk : Keeps S w w') (s1 : ¬ S r) (s2 : ¬ S nb) (s3 : ¬ S sb) (s4 : ¬ S lb) (hS : ∀ b, b < w.heap.size → S b → Bad b) : RefAt w' Bad r nb sb lb n cn cs cl Now Safe Lz fuse fused :=
  h.move hk s1 s2 s3 s4 (fun b hb x => by rcases x with x | x; exact hS b hb x; exact x) h.bad (fun b x => Nat.lt_of_lt_of_le (h.blt b x) hk.size)
theorem RefAt.below {w' : World} {w : World} {Bad : Nat → Prop} {r nb sb lb n cn cs cl : Nat} {Now Safe : Nat → List UInt8} {Lz : Nat → Bool} {fuse : Int} {fused : Bool} (h : RefAt w Bad r nb sb lb n cn cs cl Now Safe Lz fuse fused) (hb : Below w.heap.size w w') : RefAt w' Bad r nb sb lb n cn cs cl Now Safe Lz fuse fused :=
  h.keeps (Keeps.of_below (S := fun _ => False) hb) (fun e => e) (fun e => e) (fun e => e) (fun e => e) (fun _ _ e => e.elim)
/-- The fuse is another. -/
theorem RefAt.fuseTo {w : World} {Bad : Nat → Prop} {r nb sb lb n cn cs cl : Nat} {Now Safe : Nat → List UInt8} {Lz : Nat → Bool} {fuse : Int} {fused : Bool} (h : RefAt w Bad r nb sb lb n cn cs cl Now Safe Lz fuse fused) (f' : Int) (h0 : -100 ≤ f') (h1 : f' ≤ 100) : RefAt (w.setCell ⟨r, 3, none⟩ (.int .i64 f')) Bad r nb sb lb n cn cs cl Now Safe Lz f' fused := by
  have hk : Keeps (fun i => i = r) w (w.setCell ⟨r, 3, none⟩ (.int .i64 f')) := (Keeps.refl (fun i => i = r) w).setCell (p := ⟨r, 3, none⟩) rfl _
  obtain ⟨n1, n2, n3, n4, n5, n6⟩ := h.ne
  have hS : ∀ b, b < w.heap.size → b = r ∨ Bad b → Bad b := fun b _ x => by rcases x with rfl | x; exact h.bad.1; exact x
  exact { h with
    c0 := by rw [World.cell?_setCell_other _ _ _ _ (by simp)]; exact h.c0
    c1 := by rw [World.cell?_setCell_other _ _ _ _ (by simp)]; exact h.c1
    c2 := by rw [World.cell?_setCell_other _ _ _ _ (by simp)]; exact h.c2
    c3 := World.cell?_setCell_same _ _ _ h.c3
    c4 := by rw [World.cell?_setCell_other _ _ _ _ (by simp)]; exact h.c4
    f := fun o => by rw [World.frozen?_setCell]; exact h.f o
    now := h.now.move hk (fun e => n1 e.symm) hS
    safe := h.safe.move hk (fun e => n2 e.symm) hS
    lz := fun i hi => (hk.cell (p := ⟨lb, i, none⟩) h.llt (fun e => n3 e.symm)).trans (h.lz i hi)
    lf := fun o => (hk.frozen (p := ⟨lb, o, none⟩) h.llt (fun e => n3 e.symm)).trans (h.lf o)
    llt := by simpa [World.setCell] using h.llt
    blt := fun b x => by simpa [World.setCell] using h.blt b x
    u0 := h0
    u1 := h1 }
theorem RefAt.fusedTo {w : World} {Bad : Nat → Prop} {r nb sb lb n cn cs cl : Nat} {Now Safe : Nat → List UInt8} {Lz : Nat → Bool} {fuse : Int} {fused : Bool} (h : RefAt w Bad r nb sb lb n cn cs cl Now Safe Lz fuse fused) (b : Bool) : RefAt (w.setCell ⟨r, 4, none⟩ (.bool b)) Bad r nb sb lb n cn cs cl Now Safe Lz fuse b := by
  have hk : Keeps (fun i => i = r) w (w.setCell ⟨r, 4, none⟩ (.bool b)) := (Keeps.refl (fun i => i = r) w).setCell (p := ⟨r, 4, none⟩) rfl _
  obtain ⟨n1, n2, n3, n4, n5, n6⟩ := h.ne
  have hS : ∀ b, b < w.heap.size → b = r ∨ Bad b → Bad b := fun b _ x => by rcases x with rfl | x; exact h.bad.1; exact x
  exact { h with
    c0 := by rw [World.cell?_setCell_other _ _ _ _ (by simp)]; exact h.c0
    c1 := by rw [World.cell?_setCell_other _ _ _ _ (by simp)]; exact h.c1
    c2 := by rw [World.cell?_setCell_other _ _ _ _ (by simp)]; exact h.c2
    c3 := by rw [World.cell?_setCell_other _ _ _ _ (by simp)]; exact h.c3
    c4 := World.cell?_setCell_same _ _ _ h.c4
    f := fun o => by rw [World.frozen?_setCell]; exact h.f o
    now := h.now.move hk (fun e => n1 e.symm) hS
    safe := h.safe.move hk (fun e => n2 e.symm) hS
    lz := fun i hi => (hk.cell (p := ⟨lb, i, none⟩) h.llt (fun e => n3 e.symm)).trans (h.lz i hi)
    lf := fun o => (hk.frozen (p := ⟨lb, o, none⟩) h.llt (fun e => n3 e.symm)).trans (h.lf o)
    llt := by simpa [World.setCell] using h.llt
    blt := fun b x => by simpa [World.setCell] using h.blt b x }
/-- A sector's slice is put into Now. -/
theorem RefAt.putNow {w : World} {Bad : Nat → Prop} {r nb sb lb n cn cs cl : Nat} {Now Safe : Nat → List UInt8} {Lz : Nat → Bool} {fuse : Int} {fused : Bool} (h : RefAt w Bad r nb sb lb n cn cs cl Now Safe Lz fuse fused) (i : Nat) (hi : i < n) (s : List UInt8) (hs : s.length = 64) (g c : Nat) (hg : g < w.heap.size) (hgb : ¬ Bad g) (hr : w.rangeAt g 0 (bytesV s)) : RefAt (w.setCell ⟨nb, i, none⟩ (.slice (some ⟨g, 0, none⟩) 64 c)) Bad r nb sb lb n cn cs cl (upd Now i s) Safe Lz fuse fused := by
  have hk : Keeps (fun x => x = nb) w (w.setCell ⟨nb, i, none⟩ (.slice (some ⟨g, 0, none⟩) 64 c)) := (Keeps.refl (fun x => x = nb) w).setCell (p := ⟨nb, i, none⟩) rfl _
  obtain ⟨n1, n2, n3, n4, n5, n6⟩ := h.ne
  have hS : ∀ b, b < w.heap.size → b = nb ∨ Bad b → Bad b := fun b _ x => by rcases x with rfl | x; exact h.bad.2.1; exact x
  exact { h with
    c0 := (hk.cell (p := ⟨r, 0, none⟩) h.rlt n1).trans h.c0
    c1 := (hk.cell (p := ⟨r, 1, none⟩) h.rlt n1).trans h.c1
    c2 := (hk.cell (p := ⟨r, 2, none⟩) h.rlt n1).trans h.c2
    c3 := (hk.cell (p := ⟨r, 3, none⟩) h.rlt n1).trans h.c3
    c4 := (hk.cell (p := ⟨r, 4, none⟩) h.rlt n1).trans h.c4
    f := fun o => (hk.frozen (p := ⟨r, o, none⟩) h.rlt n1).trans (h.f o)
    now := h.now.put h.bad.2.1 i hi s hs g c hg hgb hr
    safe := h.safe.move hk (fun e => n4 e.symm) hS
    lz := fun i hi => (hk.cell (p := ⟨lb, i, none⟩) h.llt (fun e => n5 e.symm)).trans (h.lz i hi)
    lf := fun o => (hk.frozen (p := ⟨lb, o, none⟩) h.llt (fun e => n5 e.symm)).trans (h.lf o)
    llt := by simpa [World.setCell] using h.llt
    blt := fun b x => by simpa [World.setCell] using h.blt b x }
theorem RefAt.putSafe {w : World} {Bad : Nat → Prop} {r nb sb lb n cn cs cl : Nat} {Now Safe : Nat → List UInt8} {Lz : Nat → Bool} {fuse : Int} {fused : Bool} (h : RefAt w Bad r nb sb lb n cn cs cl Now Safe Lz fuse fused) (i : Nat) (hi : i < n) (s : List UInt8) (hs : s.length = 64) (g c : Nat) (hg : g < w.heap.size) (hgb : ¬ Bad g) (hr : w.rangeAt g 0 (bytesV s)) : RefAt (w.setCell ⟨sb, i, none⟩ (.slice (some ⟨g, 0, none⟩) 64 c)) Bad r nb sb lb n cn cs cl Now (upd Safe i s) Lz fuse fused := by
  have hk : Keeps (fun x => x = sb) w (w.setCell ⟨sb, i, none⟩ (.slice (some ⟨g, 0, none⟩) 64 c)) := (Keeps.refl (fun x => x = sb) w).setCell (p := ⟨sb, i, none⟩) rfl _
  obtain ⟨n1, n2, n3, n4, n5, n6⟩ := h.ne
  have hS : ∀ b, b < w.heap.size → b = sb ∨ Bad b → Bad b := fun b _ x => by rcases x with rfl | x; exact h.bad.2.2.1; exact x
  exact { h with
    c0 := (hk.cell (p := ⟨r, 0, none⟩) h.rlt n2).trans h.c0
    c1 := (hk.cell (p := ⟨r, 1, none⟩) h.rlt n2).trans h.c1
    c2 := (hk.cell (p := ⟨r, 2, none⟩) h.rlt n2).trans h.c2
    c3 := (hk.cell (p := ⟨r, 3, none⟩) h.rlt n2).trans h.c3
    c4 := (hk.cell (p := ⟨r, 4, none⟩) h.rlt n2).trans h.c4
    f := fun o => (hk.frozen (p := ⟨r, o, none⟩) h.rlt n2).trans (h.f o)
    now := h.now.move hk n4 hS
    safe := h.safe.put h.bad.2.2.1 i hi s hs g c hg hgb hr
    lz := fun i hi => (hk.cell (p := ⟨lb, i, none⟩) h.llt (fun e => n6 e.symm)).trans (h.lz i hi)
    lf := fun o => (hk.frozen (p := ⟨lb, o, none⟩) h.llt (fun e => n6 e.symm)).trans (h.lf o)
    llt := by simpa [World.setCell] using h.llt
    blt := fun b x => by simpa [World.setCell] using h.blt b x }
theorem RefAt.putLoose {w : World} {Bad : Nat → Prop} {r nb sb lb n cn cs cl : Nat} {Now Safe : Nat → List UInt8} {Lz : Nat → Bool} {fuse : Int} {fused : Bool} (h : RefAt w Bad r nb sb lb n cn cs cl Now Safe Lz fuse fused) (i : Nat) (hi : i < n) (b : Bool) : RefAt (w.setCell ⟨lb, i, none⟩ (.bool b)) Bad r nb sb lb n cn cs cl Now Safe (upd Lz i b) fuse fused := by
  have hk : Keeps (fun x => x = lb) w (w.setCell ⟨lb, i, none⟩ (.bool b)) := (Keeps.refl (fun x => x = lb) w).setCell (p := ⟨lb, i, none⟩) rfl _
  obtain ⟨n1, n2, n3, n4, n5, n6⟩ := h.ne
  have hS : ∀ b, b < w.heap.size → b = lb ∨ Bad b → Bad b := fun b _ x => by rcases x with rfl | x; exact h.bad.2.2.2; exact x
  exact { h with
    c0 := (hk.cell (p := ⟨r, 0, none⟩) h.rlt n3).trans h.c0
    c1 := (hk.cell (p := ⟨r, 1, none⟩) h.rlt n3).trans h.c1
    c2 := (hk.cell (p := ⟨r, 2, none⟩) h.rlt n3).trans h.c2
    c3 := (hk.cell (p := ⟨r, 3, none⟩) h.rlt n3).trans h.c3
    c4 := (hk.cell (p := ⟨r, 4, none⟩) h.rlt n3).trans h.c4
    f := fun o => (hk.frozen (p := ⟨r, o, none⟩) h.rlt n3).trans (h.f o)
    now := h.now.move hk n5 hS
    safe := h.safe.move hk n6 hS
    lz := fun j hj => by
      unfold upd
      by_cases e : j = i
      · subst e; rw [if_pos rfl, World.cell?_setCell_same _ _ _ (h.lz j hj)]
      · rw [if_neg e, World.cell?_setCell_other _ _ _ _ (fun x => by cases x; exact e rfl)]; exact h.lz j hj
    lf := fun o => by rw [World.frozen?_setCell]; exact h.lf o
    llt := by simpa [World.setCell] using h.llt
    blt := fun b x => by simpa [World.setCell] using h.blt b x }

theorem refDown {w : World} {Bad : Nat → Prop} {r nb sb lb n cn cs cl : Nat} {Now Safe : Nat → List UInt8} {Lz : Nat → Bool} {fuse : Int} {fused : Bool} (h : RefAt w Bad r nb sb lb n cn cs cl Now Safe Lz fuse fused) : Calls Tryd.prog 17 #[.pointer (some ⟨r, 0, none⟩)] w fun e w' => e = .returned (.bool (fused && decide (fuse ≤ 0))) ∧ w' = w := by
  have c3 := h.c3
  have c4 := h.c4
  have u0 := h.u0
  have u1 := h.u1
  clear h
  cases fused
  · go_enter Tryd.func17, Tryd.ntmps17
    go_wp2
    go_ret
    exact ⟨rfl, rfl⟩
  · go_enter Tryd.func17, Tryd.ntmps17
    go_wp2
    go_ret
    exact ⟨rfl, rfl⟩
theorem refSpend {w : World} {Bad : Nat → Prop} {r nb sb lb n cn cs cl : Nat} {Now Safe : Nat → List UInt8} {Lz : Nat → Bool} {fuse : Int} {fused : Bool} (h : RefAt w Bad r nb sb lb n cn cs cl Now Safe Lz fuse fused) : Calls Tryd.prog 45 #[.pointer (some ⟨r, 0, none⟩)] w fun e w' => e = .returned (.tuple #[]) ∧ w' = (if fused = true then w.setCell ⟨r, 3, none⟩ (.int .i64 (fuse - 1)) else w) := by
  have c3 := h.c3
  have c4 := h.c4
  have f3 := h.f 3
  have u0 := h.u0
  have u1 := h.u1
  clear h
  cases fused
  · go_enter Tryd.func45, Tryd.ntmps45
    go_wp2
    go_end0
    exact ⟨rfl, rfl⟩
  · go_enter Tryd.func45, Tryd.ntmps45
    go_wp2
    go_end0
    exact ⟨rfl, rfl⟩
theorem refSpend' {w : World} {Bad : Nat → Prop} {r nb sb lb n cn cs cl : Nat} {Now Safe : Nat → List UInt8} {Lz : Nat → Bool} {fuse : Int} {fused : Bool} (h : RefAt w Bad r nb sb lb n cn cs cl Now Safe Lz fuse fused) (hd : fuse ≤ 0 → fused = false) : Calls Tryd.prog 45 #[.pointer (some ⟨r, 0, none⟩)] w fun e w' => e = .returned (.tuple #[]) ∧ RefAt w' Bad r nb sb lb n cn cs cl Now Safe Lz (spendF fused fuse) fused ∧ Keeps (fun b => b = r) w w' := by
  refine (refSpend h).mono ?_
  rintro e w' ⟨rfl, rfl⟩
  have u0 := h.u0
  have u1 := h.u1
  cases fused
  · exact ⟨rfl, h, Keeps.refl _ _⟩
  · refine ⟨rfl, h.fuseTo (fuse - 1) ?_ (by omega), (Keeps.refl (fun i => i = r) w).setCell (p := ⟨r, 3, none⟩) rfl _⟩
    by_cases e : fuse ≤ 0
    · have := hd e; cases this
    · omega
theorem refWrite_down {w : World} {Bad : Nat → Prop} {r nb sb lb n cn cs cl : Nat} {Now Safe : Nat → List UInt8} {Lz : Nat → Bool} {fuse : Int} {fused : Bool} (h : RefAt w Bad r nb sb lb n cn cs cl Now Safe Lz fuse fused) (hd : (fused && decide (fuse ≤ 0)) = true) (i : Int) (v : Value) : Calls Tryd.prog 13 #[.pointer (some ⟨r, 0, none⟩), .int .i64 i, v] w fun e w' => e = .returned (.int .i64 9) ∧ w' = w := by
  go_enter Tryd.func13, Tryd.ntmps13
  go_wp2_with (go_at_call 17; refine (refDown h).mono ?_; rintro e w' ⟨rfl, hw⟩; obtain rfl := hw.symm; rw [hd])
  go_ret
  exact ⟨rfl, rfl⟩
theorem refWrite_range {w : World} {Bad : Nat → Prop} {r nb sb lb n cn cs cl : Nat} {Now Safe : Nat → List UInt8} {Lz : Nat → Bool} {fuse : Int} {fused : Bool} (h : RefAt w Bad r nb sb lb n cn cs cl Now Safe Lz fuse fused) (hd : (fused && decide (fuse ≤ 0)) = false) (i : Int) (hi : i < 0 ∨ n ≤ i) (v : Value) : Calls Tryd.prog 13 #[.pointer (some ⟨r, 0, none⟩), .int .i64 i, v] w fun e w' => e = .returned (.int .i64 2) ∧ w' = w := by
  have c0 := h.c0
  go_enter Tryd.func13, Tryd.ntmps13
  rcases hi with hi | hi
  all_goals
    go_wp2_with (go_at_call 17; refine (refDown h).mono ?_; rintro e w' ⟨rfl, hw⟩; obtain rfl := hw.symm; rw [hd])
    go_ret
    exact ⟨rfl, rfl⟩
theorem refWrite_form {w : World} {Bad : Nat → Prop} {r nb sb lb n cn cs cl : Nat} {Now Safe : Nat → List UInt8} {Lz : Nat → Bool} {fuse : Int} {fused : Bool} (h : RefAt w Bad r nb sb lb n cn cs cl Now Safe Lz fuse fused) (hd : (fused && decide (fuse ≤ 0)) = false) (i : Int) (h0 : 0 ≤ i) (hi : i < n) (a : Option Addr) (l : Nat) (hl : ((l : Int) == 64) = false) (c : Nat) : Calls Tryd.prog 13 #[.pointer (some ⟨r, 0, none⟩), .int .i64 i, .slice a l c] w fun e w' => e = .returned (.int .i64 1) ∧ w' = w := by
  have c0 := h.c0
  go_enter Tryd.func13, Tryd.ntmps13
  go_wp2_with (go_at_call 17; refine (refDown h).mono ?_; rintro e w' ⟨rfl, hw⟩; obtain rfl := hw.symm; rw [hd])
  go_ret
  exact ⟨rfl, rfl⟩
end Go.Proofs.YtmdjjnjhjojimaaDoor
