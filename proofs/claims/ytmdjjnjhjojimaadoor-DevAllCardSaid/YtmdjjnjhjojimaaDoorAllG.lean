import Derived.Test.YtmdjjnjhjojimaaDoorAllE
import Derived.Test.YtmdjjnjhjojimaaDoorAllF
namespace Go.Proofs.YtmdjjnjhjojimaaDoor
open Go.RowKit Go.Maps

def BadOf (r nb sb lb db dn mb : Nat) : Nat → Prop := fun b => b = r ∨ b = nb ∨ b = sb ∨ b = lb ∨ b = db ∨ b = dn ∨ b = mb
/-- The two devices, side by side. -/
structure Pair (w : World) (n k lo db dn mb cap : Nat) (B : List UInt8) (D : DataW Unit) (left : Int) (down : Bool) (r nb sb lb cn cs cl : Nat) (Now Safe : Nat → List UInt8) (Lz : Nat → Bool) (fuse : Int) (fused : Bool) : Prop where
  dev : DevAt w db dn mb n cap B k D left down
  ref : RefAt w (BadOf r nb sb lb db dn mb) r nb sb lb n cn cs cl Now Safe Lz fuse fused
  sim : Sim n B D left down Now Safe Lz fuse fused
  ap : (r ≠ db ∧ r ≠ dn ∧ r ≠ mb) ∧ (nb ≠ db ∧ nb ≠ dn ∧ nb ≠ mb) ∧ (sb ≠ db ∧ sb ≠ dn ∧ sb ≠ mb) ∧ (lb ≠ db ∧ lb ≠ dn ∧ lb ≠ mb)
  lo : lo ≤ db ∧ lo ≤ dn ∧ lo ≤ mb ∧ lo ≤ r ∧ lo ≤ nb ∧ lo ≤ sb ∧ lo ≤ lb
theorem Pair.below {w w' : World} {n k lo db dn mb cap : Nat} {B : List UInt8} {D : DataW Unit} {left : Int} {down : Bool} {r nb sb lb cn cs cl : Nat} {Now Safe : Nat → List UInt8} {Lz : Nat → Bool} {fuse : Int} {fused : Bool} (h : Pair w n k lo db dn mb cap B D left down r nb sb lb cn cs cl Now Safe Lz fuse fused) (hb : Below w.heap.size w w') : Pair w' n k lo db dn mb cap B D left down r nb sb lb cn cs cl Now Safe Lz fuse fused :=
  { h with
    dev := h.dev.keeps (Keeps.of_below (S := fun _ => False) hb) (fun e => e) (fun e => e) (fun e => e)
    ref := h.ref.below hb }
/-- Behind a step of the program's device. -/
theorem Pair.ref1 {w w' : World} {mb' : Nat} {n k lo db dn mb cap : Nat} {B : List UInt8} {D : DataW Unit} {left : Int} {down : Bool} {r nb sb lb cn cs cl : Nat} {Now Safe : Nat → List UInt8} {Lz : Nat → Bool} {fuse : Int} {fused : Bool} (h : Pair w n k lo db dn mb cap B D left down r nb sb lb cn cs cl Now Safe Lz fuse fused) (hk : Keeps (fun x => x = db ∨ x = dn ∨ x = mb) w w') (hm : mb' = mb ∨ w.heap.size ≤ mb') (hl : mb' < w'.heap.size) : RefAt w' (BadOf r nb sb lb db dn mb') r nb sb lb n cn cs cl Now Safe Lz fuse fused := by
  obtain ⟨⟨a1, a2, a3⟩, ⟨b1, b2, b3⟩, ⟨c1, c2, c3⟩, ⟨d1, d2, d3⟩⟩ := h.ap
  refine h.ref.move hk (by omega) (by omega) (by omega) (by omega) (fun b hb x => ?_) ?_ (fun b x => ?_)
  · rcases x with x | x
    · rcases x with x | x | x
      · exact Or.inr (Or.inr (Or.inr (Or.inr (Or.inl x))))
      · exact Or.inr (Or.inr (Or.inr (Or.inr (Or.inr (Or.inl x)))))
      · exact Or.inr (Or.inr (Or.inr (Or.inr (Or.inr (Or.inr x)))))
    · rcases x with x | x | x | x | x | x | x
      · exact Or.inl x
      · exact Or.inr (Or.inl x)
      · exact Or.inr (Or.inr (Or.inl x))
      · exact Or.inr (Or.inr (Or.inr (Or.inl x)))
      · exact Or.inr (Or.inr (Or.inr (Or.inr (Or.inl x))))
      · exact Or.inr (Or.inr (Or.inr (Or.inr (Or.inr (Or.inl x)))))
      · rcases hm with e | e
        · exact Or.inr (Or.inr (Or.inr (Or.inr (Or.inr (Or.inr (x.trans e))))))
        · omega
  · exact ⟨Or.inl rfl, Or.inr (Or.inl rfl), Or.inr (Or.inr (Or.inl rfl)), Or.inr (Or.inr (Or.inr (Or.inl rfl)))⟩
  · have q1 := h.ref.rlt
    have q2 := h.ref.now.lt
    have q3 := h.ref.safe.lt
    have q4 := h.ref.llt
    have q5 := h.dev.dlt
    have q6 := h.dev.nlt
    have q7 := hk.size
    rcases x with x | x | x | x | x | x | x <;> omega
/-- .. and of the document's. -/
theorem DevAt.ref2 {w w' : World} {db dn mb n cap : Nat} {B : List UInt8} {k : Nat} {D : DataW Unit} {left : Int} {down : Bool} {r nb sb lb : Nat} (h : DevAt w db dn mb n cap B k D left down) (hk : Keeps (fun x => x = r ∨ x = nb ∨ x = sb ∨ x = lb) w w')
    (ap : (r ≠ db ∧ r ≠ dn ∧ r ≠ mb) ∧ (nb ≠ db ∧ nb ≠ dn ∧ nb ≠ mb) ∧ (sb ≠ db ∧ sb ≠ dn ∧ sb ≠ mb) ∧ (lb ≠ db ∧ lb ≠ dn ∧ lb ≠ mb)) : DevAt w' db dn mb n cap B k D left down := by
  obtain ⟨⟨a1, a2, a3⟩, ⟨b1, b2, b3⟩, ⟨c1, c2, c3⟩, ⟨d1, d2, d3⟩⟩ := ap
  exact h.keeps hk (by omega) (by omega) (by omega)

/-- What a Write tells, and what it leaves. -/
def WOut (n : Nat) (B : List UInt8) (D : DataW Unit) (left : Int) (down : Bool) (Now Safe : Nat → List UInt8) (Lz : Nat → Bool) (fuse : Int) (fused : Bool) (i : Int) (l : Nat) (s : List UInt8) (code : Int) (B' : List UInt8) (D' : DataW Unit) (left' : Int) (down' : Bool) : Prop :=
  ((B' = B ∧ D' = D ∧ left' = left ∧ down' = down) ∧ (((fused && decide (fuse ≤ 0)) = true ∧ code = 9) ∨ ((fused && decide (fuse ≤ 0)) = false ∧ ((code = 2 ∧ (i < 0 ∨ (n : Int) ≤ i)) ∨ (code = 1 ∧ 0 ≤ i ∧ i < n ∧ ((l : Int) == 64) = false))))) ∨
  ((fused && decide (fuse ≤ 0)) = false ∧ code = 0 ∧ l = 64 ∧ ∃ j : Nat, i = (j : Int) ∧ j < n ∧ Sim n B' D' left' down' (upd Now j s) Safe (upd Lz j true) (spendF fused fuse) fused)
theorem devWrite_any {w : World} {n k lo db dn mb cap : Nat} {B : List UInt8} {D : DataW Unit} {left : Int} {down : Bool} {r nb sb lb cn cs cl : Nat} {Now Safe : Nat → List UInt8} {Lz : Nat → Bool} {fuse : Int} {fused : Bool} (h : Pair w n k lo db dn mb cap B D left down r nb sb lb cn cs cl Now Safe Lz fuse fused) (i : Int) (g l c : Nat) (s : List UInt8) (hs : l = 64 → s.length = 64 ∧ w.rangeAt g 0 (bytesV s)) (hg : g ≠ mb) (hk : k ≤ 1000000) :
    Calls Tryd.prog 11 #[.pointer (some ⟨db, 0, none⟩), .int .i64 i, .slice (some ⟨g, 0, none⟩) l c] w fun e w' => ∃ code k' B' D' left' down', e = .returned (.int .i64 code) ∧ DevAt w' db dn mb n cap B' k' D' left' down' ∧ k' ≤ k + 1 ∧ Keeps (fun x => x = db ∨ x = dn ∨ x = mb) w w' ∧ WOut n B D left down Now Safe Lz fuse fused i l s code B' D' left' down' := by
  have hdn := h.sim.isDown
  have hk2 : k < maxLen := by unfold maxLen; omega
  cases hdw : (fused && decide (fuse ≤ 0))
  · rw [hdw] at hdn
    subst hdn
    by_cases hi : i < 0 ∨ (n : Int) ≤ i
    · refine (write_range h.dev.c0 h.dev.c3 i hi _).mono ?_
      rintro e w' ⟨rfl, rfl⟩
      exact ⟨2, k, B, D, left, false, rfl, h.dev, Nat.le_succ _, Keeps.refl _ _, Or.inl ⟨⟨rfl, rfl, rfl, rfl⟩, Or.inr ⟨hdw, Or.inl ⟨rfl, hi⟩⟩⟩⟩
    · by_cases hl : l = 64
      · subst hl
        obtain ⟨hs1, hs2⟩ := hs rfl
        obtain ⟨j, rfl⟩ : ∃ j : Nat, i = (j : Int) := ⟨i.toNat, by omega⟩
        have hj : j < n := by omega
        cases hh : Maps.has D (.int .i64 j)
        · refine (write_new h.dev j hj s hs1 g 0 c hs2 hg hk2 hh).mono ?_
          rintro e w' ⟨rfl, h2, h3⟩
          exact ⟨0, k + 1, _, _, _, _, rfl, h2, Nat.le_refl _, h3, Or.inr ⟨hdw, rfl, rfl, j, rfl, hj, h.sim.write h.dev.len h.dev.isMap j hj s hs1 (Or.inr ⟨hh, rfl⟩)⟩⟩
        · refine (write_loose h.dev j hj s hs1 g 0 c hs2 hh).mono ?_
          rintro e w' ⟨rfl, h2, h3⟩
          exact ⟨0, k, _, _, _, _, rfl, h2, Nat.le_succ _, h3, Or.inr ⟨hdw, rfl, rfl, j, rfl, hj, h.sim.write h.dev.len h.dev.isMap j hj s hs1 (Or.inl ⟨hh, rfl⟩)⟩⟩
      · have hl' : ((l : Int) == 64) = false := by simp; omega
        refine (write_form h.dev.c0 h.dev.c3 i (by omega) (by omega) _ l hl' c).mono ?_
        rintro e w' ⟨rfl, rfl⟩
        exact ⟨1, k, B, D, left, false, rfl, h.dev, Nat.le_succ _, Keeps.refl _ _, Or.inl ⟨⟨rfl, rfl, rfl, rfl⟩, Or.inr ⟨hdw, Or.inr ⟨rfl, by omega, by omega, hl'⟩⟩⟩⟩
  · rw [hdw] at hdn
    subst hdn
    refine (write_down h.dev.c3 i _).mono ?_
    rintro e w' ⟨rfl, rfl⟩
    exact ⟨9, k, B, D, left, true, rfl, h.dev, Nat.le_succ _, Keeps.refl _ _, Or.inl ⟨⟨rfl, rfl, rfl, rfl⟩, Or.inl ⟨hdw, rfl⟩⟩⟩
theorem refWrite_any {w : World} {Bad : Nat → Prop} {r nb sb lb n cn cs cl : Nat} {Now Safe : Nat → List UInt8} {Lz : Nat → Bool} {fuse : Int} {fused : Bool} (h : RefAt w Bad r nb sb lb n cn cs cl Now Safe Lz fuse fused)
    {B : List UInt8} {D : DataW Unit} {left : Int} {down : Bool} {i : Int} {l : Nat} {s : List UInt8} {code : Int} {B' : List UInt8} {D' : DataW Unit} {left' : Int} {down' : Bool} (ho : WOut n B D left down Now Safe Lz fuse fused i l s code B' D' left' down') (hsim : Sim n B D left down Now Safe Lz fuse fused)
    (g c : Nat) (hs : l = 64 → s.length = 64 ∧ w.rangeAt g 0 (bytesV s)) (hg : g < w.heap.size) (hgr : g ≠ r) :
    Calls Tryd.prog 13 #[.pointer (some ⟨r, 0, none⟩), .int .i64 i, .slice (some ⟨g, 0, none⟩) l c] w fun e w' => ∃ Now' Lz' fuse', e = .returned (.int .i64 code) ∧ RefAt w' Bad r nb sb lb n cn cs cl Now' Safe Lz' fuse' fused ∧ Sim n B' D' left' down' Now' Safe Lz' fuse' fused ∧ Keeps (fun x => x = r ∨ x = nb ∨ x = sb ∨ x = lb) w w' := by
  rcases ho with ⟨⟨rfl, rfl, rfl, rfl⟩, ho⟩ | ⟨hd, rfl, rfl, j, rfl, hj, hS⟩
  · rcases ho with ⟨hd, rfl⟩ | ⟨hd, ⟨rfl, hi⟩ | ⟨rfl, h0, h1, h2⟩⟩
    · refine (refWrite_down h hd i _).mono ?_
      rintro e w' ⟨rfl, rfl⟩
      exact ⟨Now, Lz, fuse, rfl, h, hsim, Keeps.refl _ _⟩
    · refine (refWrite_range h hd i hi _).mono ?_
      rintro e w' ⟨rfl, rfl⟩
      exact ⟨Now, Lz, fuse, rfl, h, hsim, Keeps.refl _ _⟩
    · refine (refWrite_form h hd i h0 h1 _ l h2 c).mono ?_
      rintro e w' ⟨rfl, rfl⟩
      exact ⟨Now, Lz, fuse, rfl, h, hsim, Keeps.refl _ _⟩
  · obtain ⟨hs1, hs2⟩ := hs rfl
    refine (refWrite_ok h hd j hj s hs1 g 0 c hs2 hg hgr).mono ?_
    rintro e w' ⟨rfl, h2, h3⟩
    exact ⟨_, _, _, rfl, h2, hS, h3.mono (fun x e => by rcases e with e | e | e; exact Or.inl e; exact Or.inr (Or.inl e); exact Or.inr (Or.inr (Or.inr e)))⟩

/-- A slice of m noughts. -/
theorem mkn (m : Nat) (h : m ≤ 200) (w : World) : (Instr.makeSlice 33 (.int .i64 m) (.int .i64 m)).run Tryd.prog w = .ok (.slice (some ⟨w.heap.size, 0, none⟩) m m) (w.alloc (.cells (bytesV (List.replicate m 0)).toArray 5)) := by
  have hx := info5
  cases hq : Tryd.prog.info? 5 with
  | none => rw [hq] at hx; cases hx
  | some i =>
    rw [hq] at hx
    simp only [Option.map_some, Option.some.injEq, Prod.mk.injEq] at hx
    obtain ⟨h1, h2, h3⟩ := hx
    rw [run_make w 33 5 i _ Tryd.underlying33 hq h1 .i64 .i64 m m (by omega) (by omega) (by rw [h3]; omega) (by omega)]
    have e : madeCells (Value.int .u8 0).cells ((m : Int).toNat * i.size) = (bytesV (List.replicate m 0)).toArray := by
      show madeCells (Array.replicate 1 (.int .u8 0)) _ = _
      rw [madeCells_rep _ _ _ (by omega), h2]
      simp [bytesV, bV]
    rw [e]
    simp
theorem wrap_id (y : Int) (h0 : -9223372036854775808 ≤ y) (h1 : y ≤ 9223372036854775807) : IntKind.i64.wrap y = y := by
  simp [IntKind.wrap, IntKind.bits, IntKind.signed]
  omega
theorem idx130 (x : Int) : ∃ q : Nat, q < 130 ∧ (IntKind.i64.wrap (x.tmod 130 + 130)).tmod 130 = (q : Int) := by
  have h := rem_any x 130 (by omega)
  rw [wrap_id _ (by omega) (by omega)]
  have h0 : 0 ≤ (x.tmod 130 + 130).tmod 130 := Int.tmod_nonneg 130 (by omega)
  have h1 := Int.tmod_lt_of_pos (x.tmod 130 + 130) (show (0 : Int) < 130 by omega)
  exact ⟨((x.tmod 130 + 130).tmod 130).toNat, by omega, by omega⟩
theorem Pair.wrote {w w5 w6 w7 : World} {k' : Nat} {B' : List UInt8} {D' : DataW Unit} {left' : Int} {down' : Bool} {Now' : Nat → List UInt8} {Lz' : Nat → Bool} {fuse' : Int} {n k lo db dn mb cap : Nat} {B : List UInt8} {D : DataW Unit} {left : Int} {down : Bool} {r nb sb lb cn cs cl : Nat} {Now Safe : Nat → List UInt8} {Lz : Nat → Bool} {fuse : Int} {fused : Bool} (h : Pair w n k lo db dn mb cap B D left down r nb sb lb cn cs cl Now Safe Lz fuse fused) (hd : DevAt w5 db dn mb n cap B' k' D' left' down') (hk : Keeps (fun x => x = db ∨ x = dn ∨ x = mb) w w5) (hb : Below w5.heap.size w5 w6)
    (hr : RefAt w7 (BadOf r nb sb lb db dn mb) r nb sb lb n cn cs cl Now' Safe Lz' fuse' fused) (hs : Sim n B' D' left' down' Now' Safe Lz' fuse' fused) (hk2 : Keeps (fun x => x = r ∨ x = nb ∨ x = sb ∨ x = lb) w6 w7) :
    Pair w7 n k' lo db dn mb cap B' D' left' down' r nb sb lb cn cs cl Now' Safe Lz' fuse' fused ∧ Keeps (fun x => lo ≤ x) w w7 := by
  obtain ⟨o1, o2, o3, o4, o5, o6, o7⟩ := h.lo
  refine ⟨⟨(hd.keeps (Keeps.of_below (S := fun _ => False) hb) (fun e => e) (fun e => e) (fun e => e)).ref2 hk2 h.ap, hr, hs, h.ap, h.lo⟩, ?_⟩
  exact (hk.mono (fun x e => by rcases e with e | e | e <;> omega)).trans ((Keeps.of_below hb).trans (hk2.mono (fun x e => by rcases e with e | e | e | e <;> omega)))
theorem Pair.flushed {w w5 w7 : World} {mb' k' : Nat} {B' : List UInt8} {D' : DataW Unit} {left' : Int} {down' : Bool} {Now' Safe' : Nat → List UInt8} {Lz' : Nat → Bool} {fuse' : Int} {fused' : Bool} {n k lo db dn mb cap : Nat} {B : List UInt8} {D : DataW Unit} {left : Int} {down : Bool} {r nb sb lb cn cs cl : Nat} {Now Safe : Nat → List UInt8} {Lz : Nat → Bool} {fuse : Int} {fused : Bool} (h : Pair w n k lo db dn mb cap B D left down r nb sb lb cn cs cl Now Safe Lz fuse fused) (hm : w.heap.size ≤ mb') (hd : DevAt w5 db dn mb' n cap B' k' D' left' down') (hk : Keeps (fun x => x = db) w w5)
    (hr : RefAt w7 (BadOf r nb sb lb db dn mb') r nb sb lb n cn cs cl Now' Safe' Lz' fuse' fused') (hs : Sim n B' D' left' down' Now' Safe' Lz' fuse' fused') (hk2 : Keeps (fun x => x = r ∨ x = nb ∨ x = sb ∨ x = lb) w5 w7) (hlo : lo ≤ w.heap.size) :
    Pair w7 n k' lo db dn mb' cap B' D' left' down' r nb sb lb cn cs cl Now' Safe' Lz' fuse' fused' ∧ Keeps (fun x => lo ≤ x) w w7 := by
  obtain ⟨o1, o2, o3, o4, o5, o6, o7⟩ := h.lo
  obtain ⟨⟨a1, a2, a3⟩, ⟨b1, b2, b3⟩, ⟨c1, c2, c3⟩, ⟨d1, d2, d3⟩⟩ := h.ap
  have q1 := h.ref.rlt
  have q2 := h.ref.now.lt
  have q3 := h.ref.safe.lt
  have q4 := h.ref.llt
  have ap : (r ≠ db ∧ r ≠ dn ∧ r ≠ mb') ∧ (nb ≠ db ∧ nb ≠ dn ∧ nb ≠ mb') ∧ (sb ≠ db ∧ sb ≠ dn ∧ sb ≠ mb') ∧ (lb ≠ db ∧ lb ≠ dn ∧ lb ≠ mb') := ⟨⟨a1, a2, by omega⟩, ⟨b1, b2, by omega⟩, ⟨c1, c2, by omega⟩, ⟨d1, d2, by omega⟩⟩
  refine ⟨⟨hd.ref2 hk2 ap, hr, hs, ap, ⟨o1, o2, by omega, o4, o5, o6, o7⟩⟩, ?_⟩
  exact (hk.mono (fun x e => by omega)).trans (hk2.mono (fun x e => by rcases e with e | e | e | e <;> omega))
theorem Pair.fusedTo {w w5 w7 : World} {left' : Int} {down' : Bool} {fuse' : Int} {fused' : Bool} {n k lo db dn mb cap : Nat} {B : List UInt8} {D : DataW Unit} {left : Int} {down : Bool} {r nb sb lb cn cs cl : Nat} {Now Safe : Nat → List UInt8} {Lz : Nat → Bool} {fuse : Int} {fused : Bool} (h : Pair w n k lo db dn mb cap B D left down r nb sb lb cn cs cl Now Safe Lz fuse fused) (hd : DevAt w5 db dn mb n cap B k D left' down') (hk : Keeps (fun x => x = db) w w5)
    (hr : RefAt w7 (BadOf r nb sb lb db dn mb) r nb sb lb n cn cs cl Now Safe Lz fuse' fused') (hs : Sim n B D left' down' Now Safe Lz fuse' fused') (hk2 : Keeps (fun x => x = r ∨ x = nb ∨ x = sb ∨ x = lb) w5 w7) :
    Pair w7 n k lo db dn mb cap B D left' down' r nb sb lb cn cs cl Now Safe Lz fuse' fused' ∧ Keeps (fun x => lo ≤ x) w w7 := by
  obtain ⟨o1, o2, o3, o4, o5, o6, o7⟩ := h.lo
  refine ⟨⟨hd.ref2 hk2 h.ap, hr, hs, h.ap, h.lo⟩, ?_⟩
  exact (hk.mono (fun x e => by omega)).trans (hk2.mono (fun x e => by rcases e with e | e | e | e <;> omega))
theorem Pair.crashed {w w5 w7 : World} {K : List Bool} {L : List Int} {db' dn' mb' cap' r' nb' sb' lb' cn' cs' cl' : Nat} {n k lo db dn mb cap : Nat} {B : List UInt8} {D : DataW Unit} {left : Int} {down : Bool} {r nb sb lb cn cs cl : Nat} {Now Safe : Nat → List UInt8} {Lz : Nat → Bool} {fuse : Int} {fused : Bool} (h : Pair w n k lo db dn mb cap B D left down r nb sb lb cn cs cl Now Safe Lz fuse fused) (hlo : lo ≤ w.heap.size) (hp : L.Perm (intKeys D)) (hs : L.Pairwise (fun x y => x ≤ y))
    (z : w.heap.size ≤ db' ∧ w.heap.size ≤ dn' ∧ w.heap.size ≤ mb') (hd : DevAt w5 db' dn' mb' n cap' (crashB D K L B L.length) 0 (.map []) 0 false) (hb5 : Below w.heap.size w w5)
    (hr : RefAt w7 (fun b => b < w5.heap.size ∨ b = r' ∨ b = nb' ∨ b = sb' ∨ b = lb') r' nb' sb' lb' n cn' cs' cl' (crashN Now Safe Lz K) (crashN Now Safe Lz K) (fun _ => false) 0 false) (y : w5.heap.size ≤ r' ∧ w5.heap.size ≤ nb' ∧ w5.heap.size ≤ sb' ∧ w5.heap.size ≤ lb') (hb7 : Below w5.heap.size w5 w7) :
    Pair w7 n 0 lo db' dn' mb' cap' (crashB D K L B L.length) (.map []) 0 false r' nb' sb' lb' cn' cs' cl' (crashN Now Safe Lz K) (crashN Now Safe Lz K) (fun _ => false) 0 false := by
  have q1 := hd.dlt
  have q2 := hd.nlt
  have q3 := hd.mlt
  have q4 := hb5.size
  have q5 := hb7.size
  refine ⟨hd.keeps (Keeps.of_below (S := fun _ => False) hb7) (fun e => e) (fun e => e) (fun e => e), ?_, h.sim.crash h.dev hp hs K, by omega, by omega⟩
  refine hr.move (Keeps.refl (fun _ => False) w7) (fun e => e) (fun e => e) (fun e => e) (fun e => e) (fun b _ x => ?_) ⟨Or.inl rfl, Or.inr (Or.inl rfl), Or.inr (Or.inr (Or.inl rfl)), Or.inr (Or.inr (Or.inr (Or.inl rfl)))⟩ (fun b x => ?_)
  · rcases x with x | x
    · exact x.elim
    · rcases x with x | x | x | x | x | x | x
      · exact Or.inr (Or.inl x)
      · exact Or.inr (Or.inr (Or.inl x))
      · exact Or.inr (Or.inr (Or.inr (Or.inl x)))
      · exact Or.inr (Or.inr (Or.inr (Or.inr x)))
      · exact Or.inl (by omega)
      · exact Or.inl (by omega)
      · exact Or.inl (by omega)
  · have y1 := hr.rlt
    have y2 := hr.now.lt
    have y3 := hr.safe.lt
    have y4 := hr.llt
    rcases x with x | x | x | x | x | x | x <;> omega
end Go.Proofs.YtmdjjnjhjojimaaDoor
