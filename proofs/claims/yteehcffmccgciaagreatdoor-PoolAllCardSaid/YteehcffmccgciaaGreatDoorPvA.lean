import Derived.Test.YteehcffmccgciaaGreatDoorPlR
import Derived.Test.YteehcffmccgciaaGreatDoorPtA
import Derived.Deep.QuietTactic
import Derived.BigQuiet
namespace Go.Proofs.YteehcffmccgciaaGreatDoor
open Go.RowKit Go.Maps

theorem RefAt.low {w : World} {lo rb n c : Nat} {p : Option Addr} {M : List Int} (h : RefAt w lo rb (.slice p n c) M) (q : Addr) (hq : p = some q) : lo ≤ q.block ∧ q.block ≠ rb ∧ q.block < w.heap.size := by
  subst hq
  have hne := h.ne
  rcases h.own.2 with ⟨e, _⟩ | ⟨g, cap, cur, e, hg, hH, _⟩
  · cases e
  · injection e with e1 e2 e3
    injection e1 with e1
    subst e1
    exact ⟨hg, fun e => hne (by rw [← e]; rfl), (Array.getElem?_eq_some_iff.1 hH).1⟩
/-- The pool and the reference's, side by side. -/
structure Both (w0 w : World) (pb gb rb lo n c : Nat) (p : Option Addr) (L M : List (Option Int)) : Prop where
  pool : PoolAt w pb gb n L
  ref : RefAt w lo rb (.slice p n c) (M.map encO)
  rlen : M.length = n
  own : ∀ x, some x ∈ M → x ≠ nobody
  bel : Below w0.heap.size w0 w
  l1 : w0.heap.size ≤ pb ∧ pb < lo
  l2 : w0.heap.size ≤ gb ∧ gb < lo
  l3 : lo ≤ rb
theorem Both.below {w0 w w' : World} {pb gb rb lo n c : Nat} {p : Option Addr} {L M : List (Option Int)} (h : Both w0 w pb gb rb lo n c p L M) (hb : Below w.heap.size w w') : Both w0 w' pb gb rb lo n c p L M :=
  { h with pool := h.pool.below hb, ref := h.ref.below hb, bel := h.bel.trans (hb.mono h.bel.size) }
theorem Both.drew {w0 w : World} {pb gb rb lo n c : Nat} {p : Option Addr} {L M : List (Option Int)} (h : Both w0 w pb gb rb lo n c p L M) : Both w0 w.drew pb gb rb lo n c p L M :=
  h.below ⟨rfl, rfl, rfl, Nat.le_refl _, fun _ _ => rfl⟩
theorem Both.one {w0 w : World} {pb gb rb lo n c : Nat} {p : Option Addr} {L : List (Option Int)} (h : Both w0 w pb gb rb lo n c p L L) (o k : Int) (hk : -9223372036854775808 ≤ k ∧ k ≤ 9223372036854775807) (b : Nat) (hb : lo ≤ b ∧ b < w.heap.size) (u v : Value) (hu : w.cell? ⟨b, 0, none⟩ = some u) (hv : w.cell? ⟨b, 1, none⟩ = some v) :
    Calls Tryz.prog 15 #[.pointer (some ⟨pb, 0, none⟩), .int .i64 o, .int .i64 k] w fun e w' => e = .returned (.int .i64 (sizeL L o k).2) ∧ (w'.cell? ⟨b, 0, none⟩ = some u ∧ w'.cell? ⟨b, 1, none⟩ = some v) ∧ Hid (Both w0 w' pb gb rb lo n c p (sizeL L o k).1 L ∧ b < w'.heap.size) := by
  have h2 := h.l2
  have h3 := h.l3
  refine (psize_at h.pool o k hk).mono ?_
  rintro e w' ⟨rfl, hP, hK⟩
  exact ⟨rfl, ⟨(hK.cell (p := ⟨b, 0, none⟩) hb.2 (by show ¬ b = gb; omega)).trans hu, (hK.cell (p := ⟨b, 1, none⟩) hb.2 (by show ¬ b = gb; omega)).trans hv⟩,
    { h with pool := hP, ref := h.ref.keeps hK (by omega) (fun i hi => by omega), bel := h.bel.trans (hK.below h.bel.size (fun i e => by omega)) }, by have := hK.size; omega⟩
theorem Both.two {w0 w : World} {pb gb rb lo n c : Nat} {p : Option Addr} {L : List (Option Int)} {o k : Int} (h : Both w0 w pb gb rb lo n c p (sizeL L o k).1 L) (ho : o ≠ nobody) (hk : -9223372036854775808 ≤ k ∧ k ≤ 9223372036854775807) (b : Nat) (hb : b < w.heap.size) (hbr : ∀ q : Addr, p = some q → q.block ≠ b) (u v : Value) (hu : w.cell? ⟨b, 0, none⟩ = some u) (hv : w.cell? ⟨b, 1, none⟩ = some v) :
    Calls Tryz.prog 16 #[.pointer (some ⟨rb, 0, none⟩), .int .i64 o, .int .i64 k] w fun e w' => e = .returned (.int .i64 (sizeL L o k).2) ∧ (w'.cell? ⟨b, 0, none⟩ = some u ∧ w'.cell? ⟨b, 1, none⟩ = some v) ∧ Hid (Both w0 w' pb gb rb lo n c p (sizeL L o k).1 (sizeL L o k).1) := by
  have h1 := h.l1
  have h2 := h.l2
  refine (rsize_at h.ref h.rlen h.own o k ho hk).mono ?_
  rintro e w' ⟨rfl, hR, hK⟩
  have hS : ∀ i, (∃ q, p = some q ∧ q.block = i) → lo ≤ i ∧ i ≠ b := by
    rintro i ⟨q, hq, rfl⟩
    exact ⟨(h.ref.low q hq).1, hbr q hq⟩
  refine ⟨rfl, ⟨(hK.cell (p := ⟨b, 0, none⟩) hb (fun e => (hS _ e).2 rfl)).trans hu, (hK.cell (p := ⟨b, 1, none⟩) hb (fun e => (hS _ e).2 rfl)).trans hv⟩,
    { h with pool := h.pool.keeps hK (fun e => by have := (hS _ e).1; omega) (fun e => by have := (hS _ e).1; omega), ref := hR, rlen := by rw [sizeL_length]; exact h.rlen, own := fun x hx => ?_, bel := h.bel.trans (hK.below h.bel.size (fun i e => by have := (hS _ e).1; omega)) }⟩
  rcases sizeL_mem hx with rfl | hx
  · exact ho
  · exact h.own x hx
/-- What a call that only lays anew leaves of two cells. -/
theorem twoV_below {w w' : World} {b : Nat} {u v : Value} (hb : Below w.heap.size w w') (h : w.cell? ⟨b, 0, none⟩ = some u ∧ w.cell? ⟨b, 1, none⟩ = some v) : w'.cell? ⟨b, 0, none⟩ = some u ∧ w'.cell? ⟨b, 1, none⟩ = some v :=
  ⟨(hb.cell (p := ⟨b, 0, none⟩) (World.block_lt_of_cell? w _ h.1)).trans h.1, (hb.cell (p := ⟨b, 1, none⟩) (World.block_lt_of_cell? w _ h.2)).trans h.2⟩
theorem Both.three {w0 w : World} {pb gb rb lo n c : Nat} {p : Option Addr} {L : List (Option Int)} (h : Both w0 w pb gb rb lo n c p L L) (b : Nat) (u v : Value) (hS : w.cell? ⟨b, 0, none⟩ = some u ∧ w.cell? ⟨b, 1, none⟩ = some v) :
    Calls Tryz.prog 17 #[.pointer (some ⟨pb, 0, none⟩)] w fun e w' => e = .returned (.int .i64 (frees L)) ∧ (w'.cell? ⟨b, 0, none⟩ = some u ∧ w'.cell? ⟨b, 1, none⟩ = some v) ∧ Hid (Both w0 w' pb gb rb lo n c p L L) := by
  refine (free_at h.pool).mono ?_
  rintro e w' ⟨rfl, hb⟩
  exact ⟨rfl, twoV_below hb hS, h.below hb⟩
theorem Both.four {w0 w : World} {pb gb rb lo n c : Nat} {p : Option Addr} {L : List (Option Int)} (h : Both w0 w pb gb rb lo n c p L L) (b : Nat) (u v : Value) (hS : w.cell? ⟨b, 0, none⟩ = some u ∧ w.cell? ⟨b, 1, none⟩ = some v) :
    Calls Tryz.prog 18 #[.pointer (some ⟨rb, 0, none⟩)] w fun e w' => e = .returned (.int .i64 (frees L)) ∧ (w'.cell? ⟨b, 0, none⟩ = some u ∧ w'.cell? ⟨b, 1, none⟩ = some v) ∧ Hid (Both w0 w' pb gb rb lo n c p L L) := by
  refine (rfree_at h.ref).mono ?_
  rintro e w' ⟨rfl, hb⟩
  refine ⟨?_, twoV_below hb hS, h.below hb⟩
  rw [idxs_free L h.own, idxs_length]
  rfl
theorem Both.five {w0 w : World} {pb gb rb lo n c : Nat} {p : Option Addr} {L : List (Option Int)} (h : Both w0 w pb gb rb lo n c p L L) (o : Int) (b : Nat) (u v : Value) (hS : w.cell? ⟨b, 0, none⟩ = some u ∧ w.cell? ⟨b, 1, none⟩ = some v) :
    Calls Tryz.prog 19 #[.pointer (some ⟨pb, 0, none⟩), .int .i64 o] w fun e w' => (∃ q cq, e = .returned (.slice q (ofL L o).length cq) ∧ Hid (IntsR w' w.heap.size (.slice q (ofL L o).length cq) (natsI (ofL L o)))) ∧ (w'.cell? ⟨b, 0, none⟩ = some u ∧ w'.cell? ⟨b, 1, none⟩ = some v) ∧ Hid (Both w0 w' pb gb rb lo n c p L L) := by
  refine (of_at h.pool o).mono ?_
  rintro e w' ⟨v', rfl, hv, hb⟩
  obtain ⟨q, cq, e, _⟩ := hv.shape
  rw [natsI_length] at e
  subst e
  exact ⟨⟨q, cq, rfl, hv⟩, twoV_below hb hS, h.below hb⟩
theorem Both.six {w0 w : World} {pb gb rb lo n c : Nat} {p : Option Addr} {L : List (Option Int)} (h : Both w0 w pb gb rb lo n c p L L) (o : Int) (ho : o ≠ nobody) (v : Value) (lo' : Nat) (A : List Int) (hA : IntsR w lo' v A) (b : Nat) (u : Value) (hS : w.cell? ⟨b, 0, none⟩ = some u) :
    Calls Tryz.prog 20 #[.pointer (some ⟨rb, 0, none⟩), .int .i64 o] w fun e w' => (∃ q cq, e = .returned (.slice q (ofL L o).length cq) ∧ Hid (IntsR w' w.heap.size (.slice q (ofL L o).length cq) (natsI (ofL L o)))) ∧ w'.cell? ⟨b, 0, none⟩ = some u ∧ Hid (Both w0 w' pb gb rb lo n c p L L) ∧ Hid (IntsR w' lo' v A) := by
  refine (rof_at h.ref o).mono ?_
  rintro e w' ⟨v', rfl, hv, hb⟩
  rw [idxs_owner L o ho] at hv
  obtain ⟨q, cq, e, _⟩ := hv.shape
  rw [natsI_length] at e
  subst e
  exact ⟨⟨q, cq, rfl, hv⟩, (hb.cell (p := ⟨b, 0, none⟩) (World.block_lt_of_cell? w _ hS)).trans hS, h.below hb, hA.below hb⟩
/-- The lists of one owner of both, told alike. -/
def Told (w0 w : World) (pb gb rb lo n c : Nat) (p : Option Addr) (L : List (Option Int)) (A : List Nat) (q1 q2 : Option Addr) (m k1 k2 : Nat) : Prop :=
  Both w0 w pb gb rb lo n c p L L ∧ (∃ lo1, IntsR w lo1 (.slice q1 m k1) (natsI A)) ∧ (∃ lo2, IntsR w lo2 (.slice q2 m k2) (natsI A))
theorem Told.below {w0 w w' : World} {pb gb rb lo n c : Nat} {p : Option Addr} {L : List (Option Int)} {A : List Nat} {q1 q2 : Option Addr} {m k1 k2 : Nat} (h : Told w0 w pb gb rb lo n c p L A q1 q2 m k1 k2) (hb : Below w.heap.size w w') : Told w0 w' pb gb rb lo n c p L A q1 q2 m k1 k2 :=
  ⟨h.1.below hb, ⟨_, h.2.1.choose_spec.below hb⟩, ⟨_, h.2.2.choose_spec.below hb⟩⟩
theorem IntsR.cellN {w : World} {lo m k : Nat} {q : Option Addr} {A : List Nat} (h : IntsR w lo (.slice q m k) (natsI A)) (j : Nat) (hj : j < m) : ∃ g, q = some ⟨g, 0, none⟩ ∧ w.cell? ⟨g, j, none⟩ = some (.int .i64 ((A.getD j 0 : Nat) : Int)) := by
  have hl : (natsI A).length = m := by
    rcases h.2 with ⟨e, h0⟩ | ⟨g, cap, cur, e, _⟩
    · injection e with _ e _; omega
    · injection e with _ e _; exact e.symm
  obtain ⟨g, c', e1, _, _, _, hcell⟩ := h.at_ (by omega)
  injection e1 with e1 _ _
  refine ⟨g, e1, ?_⟩
  rw [hcell j (by omega), natsI_getD]
set_option maxRecDepth 100000 in
set_option maxHeartbeats 4000000 in
theorem poolAll_true (n0 : Int) (oa : Option Addr) (om oc : Nat) (w : World) (hO : PairsAt w oa om) (hg : w.cell? ⟨0, 0, none⟩ = some errType) :
    Calls Tryz.prog 3 #[.int .i64 n0, .slice oa om oc] w fun e w' => e = .returned (.bool true) ∧ Below w.heap.size w w' := by
  have HO : Hid (PairsAt w oa om) := hO
  clear hO
  go_enter Tryz.func3, Tryz.ntmps3
  go_wp2_with fail
  refine (begun7_true _ hg).mono ?_
  rintro e w1 ⟨rfl, hb1⟩
  clear hg
  go_wp2_with fail
  refine (new_at_pool n0 w1).mono ?_
  rintro e w2 ⟨pb, gb, rfl, hP2, hpb, hgb, hb2⟩
  have hs1 := hb1.size
  have hs2 := hb2.size
  have HB2 : Hid (Below w.heap.size w w2) := hb1.trans (hb2.mono hs1)
  have HP2 : Hid (PoolAt w2 pb gb (poolN n0) (List.replicate (poolN n0) none)) := hP2
  clear hb1 hb2 hP2
  go_wp2_with fail
  refine (rnew_at n0 w2).mono ?_
  rintro e w3 ⟨rb, p, c, rfl, hR3, hrb, hb3⟩
  have HI0 : Hid (∃ L, Both w w3 pb gb rb w2.heap.size (poolN n0) c p L L) := by
    have hpl := HP2.out.pl
    have hgl := HP2.out.gl
    exact ⟨_, HP2.out.below hb3, hR3, by simp, fun x hx => by simp at hx, HB2.out.trans (hb3.mono HB2.out.size), ⟨by omega, hpl⟩, ⟨by omega, hgl⟩, hrb⟩
  generalize w2.heap.size = lo at *
  generalize poolN n0 = n at *
  clear HB2 HP2 hR3 hrb hb3 hpb hgb hs1 hs2
  go_wp2_with fail
  go_loopw [8] (fun s8 wr => ∃ j : Nat, j ≤ om ∧ s8 = .int .i64 j ∧ Hid (∃ L, Both w wr pb gb rb lo n c p L L)) (fun s8 _ => om - (RowKit.intOf s8).toNat)
  case atStart => exact ⟨0, Nat.zero_le _, rfl, HI0⟩
  case round =>
    clear HI0
    obtain ⟨j, hj, rfl, HI⟩ := hrel
    by_cases hlt : j < om ∧ j < 40
    · obtain ⟨b, o, x, y, rfl, hbl, hx, hy, c0, c1⟩ := HO.out j hlt.1
      obtain ⟨L, hB⟩ := HI.out
      have f0 := (hB.bel.cell (p := ⟨b, o + j * 2, none⟩) hbl).trans c0
      have f1 := (hB.bel.cell (p := ⟨b, o + j * 2 + 1, none⟩) hbl).trans c1
      have hlt1 := hlt.1
      have hlt2 := hlt.2
      have hbA : Below wr.heap.size wr (wr.alloc (.cells #[.int .i64 x, .int .i64 y] 29)) := (Below.refl _ _).alloc (Nat.le_refl _) _
      have HBA : Hid (Both w (wr.alloc (.cells #[.int .i64 x, .int .i64 y] 29)) pb gb rb lo n c p L L) := hB.below hbA
      have hlob : lo ≤ wr.heap.size ∧ wr.heap.size < (wr.alloc (.cells #[.int .i64 x, .int .i64 y] 29)).heap.size := by
        have := hB.l3
        have := hB.ref.rl
        exact ⟨by omega, by simp⟩
      have hbr : ∀ q : Addr, p = some q → q.block ≠ wr.heap.size := fun q hq => by have := (hB.ref.low q hq).2.2; omega
      have g0 : (wr.alloc (.cells #[.int .i64 x, .int .i64 y] 29)).cell? ⟨wr.heap.size, 0, none⟩ = some (.int .i64 x) := by rw [cell_of_row _ _ 0 _ 29 (0, 0) (heap_alloc_last wr _)]; rfl
      have g1 : (wr.alloc (.cells #[.int .i64 x, .int .i64 y] 29)).cell? ⟨wr.heap.size, 1, none⟩ = some (.int .i64 y) := by rw [cell_of_row _ _ 1 _ 29 (0, 0) (heap_alloc_last wr _)]; rfl
      clear HI hB hbA c0 c1
      by_cases hxn : x = -9223372036854775808
      · subst hxn
        clear hbr hlob g0 g1
        go_wp2_with fail
        exact ⟨⟨j + 1, by omega, rfl, _, HBA.out⟩, by simp [RowKit.intOf]; omega⟩
      · have HD : Hid (Both w (wr.alloc (.cells #[.int .i64 x, .int .i64 y] 29)).drew pb gb rb lo n c p L L) := HBA.out.drew
        have H1 : Hid (Calls Tryz.prog 15 #[.pointer (some ⟨pb, 0, none⟩), .int .i64 x, .int .i64 y] (wr.alloc (.cells #[.int .i64 x, .int .i64 y] 29)).drew fun e w' => e = .returned (.int .i64 (sizeL L x y).2) ∧ (w'.cell? ⟨wr.heap.size, 0, none⟩ = some (.int .i64 x) ∧ w'.cell? ⟨wr.heap.size, 1, none⟩ = some (.int .i64 y)) ∧ Hid (Both w w' pb gb rb lo n c p (sizeL L x y).1 L ∧ wr.heap.size < w'.heap.size)) :=
          HD.out.one x y hy wr.heap.size hlob _ _ g0 g1
        have H2 : Hid (∀ w3, Both w w3 pb gb rb lo n c p (sizeL L x y).1 L ∧ wr.heap.size < w3.heap.size → w3.cell? ⟨wr.heap.size, 0, none⟩ = some (.int .i64 x) ∧ w3.cell? ⟨wr.heap.size, 1, none⟩ = some (.int .i64 y) → Calls Tryz.prog 16 #[.pointer (some ⟨rb, 0, none⟩), .int .i64 x, .int .i64 y] w3 fun e w' => e = .returned (.int .i64 (sizeL L x y).2) ∧ (w'.cell? ⟨wr.heap.size, 0, none⟩ = some (.int .i64 x) ∧ w'.cell? ⟨wr.heap.size, 1, none⟩ = some (.int .i64 y)) ∧ Hid (Both w w' pb gb rb lo n c p (sizeL L x y).1 (sizeL L x y).1)) :=
          fun w3 h3 hs => h3.1.two hxn hy wr.heap.size h3.2 hbr _ _ hs.1 hs.2
        clear HBA HD hbr hlob
        generalize (sizeL L x y).2 = code at *
        go_wp2_with fail
        have hcode : (code != code) = false := by simp
        refine wp_region_noPanic ?_
        go_region_held (fun w' => w'.cell? ⟨wr.heap.size, 0, none⟩ = some (.int .i64 x) ∧ w'.cell? ⟨wr.heap.size, 1, none⟩ = some (.int .i64 y)) (first | assumption | exact ⟨g0, g1⟩ | go_keep)
          (first
            | (have hold := HM5.out; clear hold; go_at_call 18; refine (HM5.out.four wr.heap.size _ _ hS5).mono ?_; rintro e w6 ⟨rfl, hS6, HM6⟩)
            | (have hold := HM4.out; clear hold; go_at_call 17; refine (HM4.out.three wr.heap.size _ _ hS4).mono ?_; rintro e w5 ⟨rfl, hS5, HM5⟩)
            | (have hold := HM3.out; clear hold; go_at_call 16; refine (H2.out _ HM3.out hS3).mono ?_; rintro e w4 ⟨rfl, hS4, HM4⟩)
            | (go_at_call 15; refine H1.out.mono ?_; rintro e w3 ⟨rfl, hS3, HM3⟩))
        refine NoPanic.normal ?_
        have H5 : Hid (Calls Tryz.prog 19 #[.pointer (some ⟨pb, 0, none⟩), .int .i64 x] w6.drew fun e w' => (∃ q cq, e = .returned (.slice q (ofL (sizeL L x y).1 x).length cq) ∧ Hid (IntsR w' w6.drew.heap.size (.slice q (ofL (sizeL L x y).1 x).length cq) (natsI (ofL (sizeL L x y).1 x)))) ∧ (w'.cell? ⟨wr.heap.size, 0, none⟩ = some (.int .i64 x) ∧ w'.cell? ⟨wr.heap.size, 1, none⟩ = some (.int .i64 y)) ∧ Hid (Both w w' pb gb rb lo n c p (sizeL L x y).1 (sizeL L x y).1)) :=
          HM6.out.drew.five x wr.heap.size _ _ hS6
        have g2 := hS6.1
        clear hS3 HM3 hS4 HM4 hS5 HM5 H1 H2 g0 g1 HM6 f0 f1
        generalize (sizeL L x y).1 = L' at *
        generalize hA : ofL L' x = A at *
        obtain ⟨m, hm⟩ : ∃ m, A.length = m := ⟨_, rfl⟩
        have HAm : Hid (A.length = m) := hm
        have HAe : Hid (ofL L' x = A) := hA
        rw [hm] at H5
        clear hm hA
        go_wp2_with fail
        refine wp_region_noPanic ?_
        go_region_held (fun w' => w'.cell? ⟨wr.heap.size, 0, none⟩ = some (.int .i64 x)) (first | assumption | exact g2 | exact And.left (by assumption) | go_keep)
          (first
            | (have hold := HM7.out; clear hold; go_at_call 20; refine (HM7.out.six x hxn _ _ _ HV7.out wr.heap.size _ hS7.1).mono ?_; rw [HAe.out, HAm.out]; rintro e w8 ⟨⟨q2, k2, rfl, HV8⟩, hS8, HM8, HV9⟩)
            | (go_at_call 19; refine H5.out.mono ?_; rintro e w7 ⟨⟨q1, k1, rfl, HV7⟩, hS7, HM7⟩))
        refine NoPanic.normal ?_
        have HT : Hid (Told w w8 pb gb rb lo n c p L' A q1 q2 m k1 k2) := ⟨HM8.out, ⟨_, HV9.out⟩, ⟨_, HV8.out⟩⟩
        have hm1 : m ≤ 1000 := by
          have e1 := HAm.out
          have e2 := HAe.out
          have e3 := ofL_len L' x
          have e4 := HM8.out.rlen
          have e5 := HM8.out.pool.n1
          rw [e2] at e3
          omega
        clear HV8 HM8 HV9 hS8 HM7 hS7 HV7 H5 g2 hS6
        go_wp2_with fail
        go_loopw [72] (fun s72 wq => ∃ i : Nat, i ≤ m ∧ s72 = .int .i64 i ∧ Hid (Told w wq pb gb rb lo n c p L' A q1 q2 m k1 k2)) (fun s72 _ => m - (RowKit.intOf s72).toNat)
        case atStart => exact ⟨0, Nat.zero_le _, rfl, HT⟩
        case round =>
          clear HT
          obtain ⟨i, hi, rfl, HT⟩ := hrel
          by_cases him : i < m
          · obtain ⟨⟨_, hv1⟩, ⟨_, hv2⟩⟩ := HT.out.2
            obtain ⟨ga, rfl, d1⟩ := hv1.cellN i him
            obtain ⟨gc, rfl, d2⟩ := hv2.cellN i him
            clear hv1 hv2
            generalize A.getD i 0 = z at d1 d2
            go_wp2_with fail
            go_quiet (fail)
            have HT2 : Hid (Told w (wr.drewN nq) pb gb rb lo n c p L' A (some ⟨ga, 0, none⟩) (some ⟨gc, 0, none⟩) m k1 k2) := HT.out.below ⟨rfl, rfl, rfl, Nat.le_refl _, fun _ _ => rfl⟩
            clear HT
            go_wp2_with fail
            exact ⟨⟨i + 1, him, rfl, HT2⟩, by simp [RowKit.intOf]; omega⟩
          · obtain rfl : i = m := by omega
            have HE : Hid (∃ L, Both w wr pb gb rb lo n c p L L) := ⟨_, HT.out.1⟩
            clear HT
            go_wp2_with fail
            exact ⟨⟨j + 1, by omega, rfl, HE⟩, by simp [RowKit.intOf]; omega⟩
    · obtain ⟨L, hB⟩ := HI.out
      have HB : Hid (Both w wr pb gb rb lo n c p L L) := hB
      clear HI hB
      rcases (show om ≤ j ∨ (j < om ∧ 40 ≤ j) by omega) with hex | ⟨hex1, hex2⟩
      all_goals
        go_wp2_with fail
        refine (free_at HB.out.pool).mono ?_
        rintro e wa ⟨rfl, hba⟩
        have HBa : Hid (Both w wa pb gb rb lo n c p L L) := HB.out.below hba
        have hF := rfree_at HBa.out.ref
        rw [idxs_free L HBa.out.own, idxs_length] at hF
        have HF : Hid (Calls Tryz.prog 18 #[.pointer (some ⟨rb, 0, none⟩)] wa fun e w' => e = .returned (.int .i64 (frees L : Nat)) ∧ Below wa.heap.size wa w') := hF
        clear HB hba hF
        generalize frees L = f at *
        go_wp2_with fail
        refine HF.out.mono ?_
        rintro e wb ⟨rfl, hbb⟩
        have HBb : Hid (Below w.heap.size w wb) := HBa.out.bel.trans (hbb.mono HBa.out.bel.size)
        clear HF HBa hbb
        go_wp2_with fail
        go_ret
        exact ⟨by simp, HBb.out⟩
end Go.Proofs.YteehcffmccgciaaGreatDoor
