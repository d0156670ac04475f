import Derived.Test.YteaacodloabdcaaGreatDoorVcA
import Derived.Test.YteaacodloabdcaaGreatDoorSlH
import Derived.Test.YteaacodloabdcaaGreatDoorVcD
namespace Go.Proofs.YteaacodloabdcaaGreatDoor
open Go.RowKit Go.Maps

/-- A Writer in the course of a call: what it held when the call began was s0, in a0. -/
def WrQ (w wr : World) (wb base : Nat) (v0 : Value) (s : List UInt8) : Prop := ∃ a c, WrAt wr wb base s a c ∧ Keeps (WrMay wb v0) w wr ∧ Moved w v0 (.slice a s.length c)
theorem WrQ.one {w wr : World} {wb base : Nat} {v0 : Value} {s : List UInt8} (h : WrQ w wr wb base v0 s) (x : Int) (hx : -9223372036854775808 ≤ x ∧ x ≤ 9223372036854775807) (hm : s.length ≤ 1000000) :
    Calls Tryz.prog 63 #[.pointer (some ⟨wb, 0, none⟩), .slice (some ⟨wr.heap.size, 0, none⟩) 1 1] (wr.alloc (.cells #[.int .i64 x] 2)) fun e w' => e = .returned (.tuple #[]) ∧ Hid (WrQ w w' wb base v0 (s ++ encInt x)) := by
  obtain ⟨a, c, hW, hK, hM⟩ := h
  have hr : (wr.alloc (.cells #[.int .i64 x] 2)).rangeAt wr.heap.size 0 ([x].map (Value.int .i64)) := range_of_row (heap_alloc_last wr _) _ rfl
  have hlt := hW.lt
  refine (int_any (hW.alloc _) wr.heap.size 0 1 [x] hr (by omega) (fun e => by have := (hW.own e).2; omega) (fun y hy => by simp only [List.mem_cons, List.not_mem_nil, or_false] at hy; subst hy; exact hx) (by simp; omega)).mono ?_
  rintro e w' ⟨a', c', rfl, hW', hK', hM'⟩
  have hbA : Below wr.heap.size wr (wr.alloc (.cells #[.int .i64 x] 2)) := (Below.refl _ wr).alloc (Nat.le_refl _) _
  have e0 : s ++ [x].flatMap encInt = s ++ encInt x := by simp
  rw [e0] at hW' hM'
  refine ⟨rfl, a', c', hW', Keeps.trans2 (hK.trans (Keeps.of_below hbA)) hK' (fun i e => ?_), hM.trans hM' (Nat.le_trans hK.size hbA.size)⟩
  rcases e with e | e
  · exact Or.inl (Or.inl e)
  · rcases hM with h | ⟨g, h, hg⟩
    · exact Or.inl (Or.inr (h.symm.trans e))
    · rw [h] at e; cases e; exact Or.inr hg
theorem encInt_len (x : Int) : (encInt x).length ≤ 10 := by
  have := wid_le x
  rw [encInt_length]
  omega
/-- What vect.Put writes. -/
def encV (A : List Int) : List UInt8 := encInt A.length ++ A.flatMap encInt
set_option maxRecDepth 100000 in
set_option maxHeartbeats 2000000 in
theorem vput_at {w : World} {wb base : Nat} {s : List UInt8} {a p : Option Addr} {c n cc : Nat} {A : List Int} (h : WrAt w wb base s a c) (hA : VecAt w p n cc A) (hp : ∀ q, p = some q → q.block ≠ wb ∧ (Value.slice a s.length c).ownBlock ≠ some q.block) (hn : n ≤ 1000) (hs : s.length ≤ 100000) :
    Calls Tryz.prog 38 #[.pointer (some ⟨wb, 0, none⟩), .slice p n cc] w fun e w' => e = .returned (.tuple #[]) ∧ Hid (WrQ w w' wb base (.slice a s.length c) (s ++ encV A)) := by
  have HA : Hid (VecAt w p n cc A) := hA
  have HP : Hid (∀ q, p = some q → ¬ WrMay wb (.slice a s.length c) q.block) := fun q e => by
    rintro (h | h)
    · exact (hp q e).1 h
    · exact (hp q e).2 h
  have HQ : Hid (WrQ w w wb base (.slice a s.length c) s) := ⟨a, c, h, Keeps.refl _ _, Or.inl rfl⟩
  have HW := hA.len
  generalize Value.slice a s.length c = v0 at *
  clear h hA hp
  go_enter Tryz.func38, Tryz.ntmps38
  go_wp2_with fail
  refine (HQ.out.one n (by omega) (by omega)).mono ?_
  clear HQ
  rintro e w1 ⟨rfl, HQ⟩
  go_wp2_with fail
  go_loopw [13] (fun s13 wr => ∃ j : Nat, j ≤ n ∧ s13 = .int .i64 j ∧ Hid (WrQ w wr wb base v0 (s ++ encInt n ++ (A.take j).flatMap encInt))) (fun s13 _ => n - (RowKit.intOf s13).toNat)
  case atStart => exact ⟨0, Nat.zero_le _, rfl, by simpa using HQ⟩
  case round =>
    clear HQ
    obtain ⟨j, hj, rfl, HI⟩ := hrel
    by_cases hlt : j < n
    · have hV : VecAt wr p n cc A := by
        obtain ⟨_, _, _, hK, _⟩ := HI.out
        exact HA.out.keep hK HP.out
      obtain ⟨b, o, rfl, hb, hc, f1, f2⟩ := hV.cell j hlt
      have hE : s ++ encInt n ++ (A.take (j + 1)).flatMap encInt = (s ++ encInt n ++ (A.take j).flatMap encInt) ++ encInt (A.getD j 0) := by
        rw [take_snoc (by omega), List.flatMap_append]
        simp
      have hL : (s ++ encInt n ++ (A.take j).flatMap encInt).length ≤ 1000000 := by
        have h1 := encInt_len n
        have h2 := flat_len (A.take j) j (by rw [List.length_take]; omega)
        simp only [List.length_append]
        omega
      have HN : Hid (Calls Tryz.prog 63 #[.pointer (some ⟨wb, 0, none⟩), .slice (some ⟨wr.heap.size, 0, none⟩) 1 1] (wr.alloc (.cells #[.int .i64 (A.getD j 0)] 2)) fun e w' => e = .returned (.tuple #[]) ∧ Hid (WrQ w w' wb base v0 (s ++ encInt n ++ (A.take (j + 1)).flatMap encInt))) := by
        have := HI.out.one (A.getD j 0) (by omega) hL
        rw [← hE] at this
        exact this
      clear hE hL hV HI
      generalize A.getD j 0 = x at *
      go_wp2_with fail
      refine HN.out.mono ?_
      rintro e w5 ⟨rfl, HQ⟩
      clear HN hc
      go_wp2_with fail
      exact ⟨⟨j + 1, hlt, rfl, HQ⟩, by simp [RowKit.intOf]; omega⟩
    · obtain rfl : j = n := by omega
      have HE : Hid (WrQ w wr wb base v0 (s ++ encV A)) := by
        have := HI.out
        rw [List.take_of_length_le (by omega), List.append_assoc] at this
        unfold encV
        rw [HW]
        exact this
      clear HI
      go_wp2_with fail
      first | go_end0 | refine bodyPost_ret (results_none rfl _ _ _) rfl ?_
      exact ⟨rfl, HE⟩
end Go.Proofs.YteaacodloabdcaaGreatDoor

namespace Go.Proofs.YteaacodloabdcaaGreatDoor
open Go.RowKit Go.Maps

def fit32 (x : Int) : Bool := decide (wrap32 x = x)
/-- What vect.Get reads: the numbers, or nothing; what is left; and the error. -/
def getV (s : List UInt8) (err : Int) : Option (List Int) × List UInt8 × Int :=
  let t := rdInt s err
  if t.1 < 0 ∨ 8 < t.1 then (none, t.2.1, t.2.2)
  else
    let q := rdInts t.1.toNat t.2.1 t.2.2
    let z := rdSt t.1.toNat t.2.1 t.2.2
    (if q.1.all fit32 = true ∧ z.2 = 0 then some q.1 else none, z.1, z.2)
theorem other32 {w : World} {rb nb : Nat} {s : List UInt8} {a : Option Addr} {c : Nat} {err : Int} (h : RdAt w rb s a c err) {A : List Int} (hn : w.heap[nb]? = some (.cells (A.map (Value.int .i32)).toArray 21)) : ∀ g o, a = some ⟨g, o, none⟩ → s ≠ [] → ¬ g = nb := by
  rintro g o rfl hs rfl
  rcases h.sh with ⟨e, _⟩ | ⟨g', o', e, _, hr⟩
  · cases e
  · cases e
    obtain ⟨b, r, rfl⟩ : ∃ b r, s = b :: r := by cases s; exact absurd rfl hs; exact ⟨_, _, rfl⟩
    have h1 := hr 0 (bV b) rfl
    rw [cell_of_row _ _ (o + 0) _ 21 (0, 0) hn] at h1
    have h2 : (A.map (Value.int .i32))[o + 0]? = some (bV b) := by simpa using h1
    rw [List.getElem?_map] at h2
    cases hx : A[o + 0]? with
    | none => rw [hx] at h2; cases h2
    | some x => rw [hx] at h2; simp [bV] at h2
theorem row_cell32 {w : World} {nb : Nat} {A : List Int} (h : w.heap[nb]? = some (.cells (A.map (Value.int .i32)).toArray 21)) (j : Nat) (hj : j < A.length) : w.cell? ⟨nb, j, none⟩ = some (.int .i32 (A.getD j 0)) ∧ w.frozen? ⟨nb, j, none⟩ = false := by
  constructor
  · rw [cell_of_row _ _ j _ 21 (0, 0) h]
    simp [List.getElem?_map, List.getElem?_eq_getElem hj, List.getD]
  · unfold World.frozen?; rw [h]; simp
/-- The loop's. -/
structure GI (w wr : World) (rb nb m j : Nat) (r : List UInt8) (e : Int) : Prop where
  rd : ∃ a c, RdAt wr rb (rdSt j r e).1 a c (rdSt j r e).2
  row : wr.heap[nb]? = some (.cells (((rdInts j r e).1.map wrap32 ++ List.replicate (m - j) 0).map (Value.int .i32)).toArray 21)
  k : Keeps (fun i => i = rb) w wr
  n : w.heap.size ≤ nb
  ne : rb ≠ nb
theorem GI.step {w wr w4 : World} {rb nb m j : Nat} {r : List UInt8} {e : Int} {a4 : Option Addr} {c4 : Nat} (hI : GI w wr rb nb m j r e) (hj : j < m)
    (hR : RdAt w4 rb (rdInt (rdSt j r e).1 (rdSt j r e).2).2.1 a4 c4 (rdInt (rdSt j r e).1 (rdSt j r e).2).2.2) (hk : Keeps (fun i => i = rb) wr w4) :
    (w4.cell? ⟨nb, j, none⟩ = some (.int .i32 0) ∧ w4.frozen? ⟨nb, j, none⟩ = false) ∧ GI w (w4.setCell ⟨nb, j, none⟩ (.int .i32 (wrap32 (rdInt (rdSt j r e).1 (rdSt j r e).2).1))) rb nb m (j + 1) r e := by
  have n1 := hI.ne
  have hnb : nb < wr.heap.size := (Array.getElem?_eq_some_iff.1 hI.row).1
  have row4 := (hk.block nb hnb (fun x => n1 x.symm)).trans hI.row
  have hlen : ((rdInts j r e).1.map wrap32).length = j := by rw [List.length_map]; exact rdInts_len j r e
  have hrc := row_cell32 row4 j (by rw [List.length_append, List.length_replicate, hlen]; omega)
  have hz : ((rdInts j r e).1.map wrap32 ++ List.replicate (m - j) 0).getD j 0 = 0 := by
    simp [List.getD, List.getElem?_append_right (Nat.le_of_eq hlen), hlen, List.getElem?_replicate]
    split <;> rfl
  rw [hz] at hrc
  have hk2 : Keeps (fun i => i = nb) w4 (w4.setCell ⟨nb, j, none⟩ (.int .i32 (wrap32 (rdInt (rdSt j r e).1 (rdSt j r e).2).1))) := (Keeps.refl (fun i => i = nb) w4).setCell (p := ⟨nb, j, none⟩) rfl _
  refine ⟨hrc, ⟨⟨a4, c4, ?_⟩, ?_, ?_, hI.n, n1⟩⟩
  · rw [rdSt_snoc]
    exact hR.keep hk2 n1 (other32 hR row4)
  · rw [setCell_eq_setRow _ _ _ _ _ _ _ row4, setRow_heap _ _ _ _ _ _ row4, rdInts_snoc]
    congr 2
    have hm : m - j = (m - (j + 1)) + 1 := by omega
    rw [hm, List.replicate_succ]
    simp only [List.map_append, List.map_cons, List.append_assoc, List.cons_append]
    apply Array.ext'
    have hl2 : (rdInts j r e).1.length = j := rdInts_len j r e
    simp [List.set_append_right, hl2]
  · exact (hI.k.trans hk).trans2 hk2 (fun i x => Or.inr (by have := hI.n; omega))
theorem GI.start {w w1 : World} {rb m : Nat} {r : List UInt8} {e : Int} {a : Option Addr} {c : Nat} (hR : RdAt w1 rb r a c e) (hk : Keeps (fun i => i = rb) w w1) : GI w (w1.alloc (.cells (vrow m) 21)) rb w1.heap.size m 0 r e where
  rd := ⟨a, c, hR.keep (S := fun _ => False) ((Keeps.refl _ w1).alloc _) (fun e => e) (fun _ _ _ _ e => e)⟩
  row := by
    rw [heap_alloc_last]
    simp [rdInts, vrow]
  k := hk.trans ((Keeps.refl _ w1).alloc _)
  n := hk.size
  ne := by have := hR.lt; omega
theorem GI.done {w wr : World} {rb nb m : Nat} {r : List UInt8} {e : Int} (h : GI w wr rb nb m m r e) (hf : (rdInts m r e).1.all fit32 = true) (hm : m ≤ 8) : VecR wr w.heap.size (.slice (some ⟨nb, 0, none⟩) m m) (rdInts m r e).1 := by
  have hl : (rdInts m r e).1.length = m := rdInts_len m r e
  have he : (rdInts m r e).1.map wrap32 = (rdInts m r e).1 := by
    conv => rhs; rw [← List.map_id (rdInts m r e).1]
    apply List.map_congr_left
    intro x hx
    have := List.all_eq_true.1 hf x hx
    simpa [fit32] using this
  have hr := h.row
  rw [Nat.sub_self, List.replicate_zero, List.append_nil, he] at hr
  show World.ownsRow _ _ _ _ _ _ _
  rw [hl]
  refine ⟨by simp [hl], .inr ⟨nb, m, _, rfl, h.n, hr, Nat.le_refl _, by unfold maxLen; omega, by simp [hl], by rw [Nat.mul_one, List.take_of_length_le (by simp [hl])]⟩⟩
theorem fit32_walk (x : Int) : (wrap64 (wrap32 x) == x) = fit32 x := by
  have h : wrap64 (wrap32 x) = wrap32 x := by unfold wrap64 wrap32; omega
  rw [h]
  unfold fit32
  rw [Bool.eq_iff_iff, beq_iff_eq, decide_eq_true_iff]
/-- What vect.Get does. -/
def GetP (rb : Nat) (G : Option (List Int) × List UInt8 × Int) (w : World) (v' : Value) (w' : World) : Prop := ∃ a' c', (match G.1 with | some A => VecR w' w.heap.size v' A | none => v' = .slice none 0 0) ∧ RdAt w' rb G.2.1 a' c' G.2.2 ∧ Keeps (fun i => i = rb) w w'
set_option maxRecDepth 100000 in
set_option maxHeartbeats 4000000 in
theorem vget_at {w : World} {rb : Nat} {s : List UInt8} {a : Option Addr} {c : Nat} {err : Int} (h : RdAt w rb s a c err) :
    Calls Tryz.prog 29 #[.pointer (some ⟨rb, 0, none⟩)] w fun e w' => ∃ v', e = .returned v' ∧ GetP rb (getV s err) w v' w' := by
  have hF := rdInt_fit s err
  have hC := rint_any h
  rcases hq : rdInt s err with ⟨t, r2, e2⟩
  rw [hq] at hF hC
  have HG : Hid (getV s err = if t < 0 ∨ 8 < t then (none, r2, e2) else (if (rdInts t.toNat r2 e2).1.all fit32 = true ∧ (rdSt t.toNat r2 e2).2 = 0 then some (rdInts t.toNat r2 e2).1 else none, (rdSt t.toNat r2 e2).1, (rdSt t.toNat r2 e2).2)) := by
    show getV s err = _
    unfold getV
    rw [hq]
  clear h hq
  simp only at hF hC
  go_enter Tryz.func29, Tryz.ntmps29
  go_wp2_with fail
  refine hC.mono ?_
  rintro e w1 ⟨a1, c1, rfl, hR1, hk1, _⟩
  clear hC
  by_cases hbad : t < 0 ∨ 8 < t
  · have HE : Hid (GetP rb (getV s err) w (.slice none 0 0) w1) := by
      show GetP _ _ _ _ _
      rw [HG.out, if_pos hbad]
      exact ⟨a1, c1, rfl, hR1, hk1⟩
    clear hR1 hk1 HG
    rcases hbad with h1 | h1
    · go_wp2_with fail
      go_ret
      exact ⟨_, rfl, HE.out⟩
    · have h2 : ¬ t < 0 := by omega
      go_wp2_with fail
      go_ret
      exact ⟨_, rfl, HE.out⟩
  · obtain ⟨m, rfl⟩ : ∃ m : Nat, t = m := ⟨t.toNat, by omega⟩
    have hm : m ≤ 8 := by omega
    have HG2 : Hid (getV s err = (if (rdInts m r2 e2).1.all fit32 = true ∧ (rdSt m r2 e2).2 = 0 then some (rdInts m r2 e2).1 else none, (rdSt m r2 e2).1, (rdSt m r2 e2).2)) := by
      show getV s err = _
      rw [HG.out, if_neg hbad, Int.toNat_natCast]
    have HI0 : Hid (GI w (w1.alloc (.cells (vrow m) 21)) rb w1.heap.size m 0 r2 e2) := GI.start hR1 hk1
    have hmk := mkVec m (by omega) w1
    clear HG hbad hR1 hk1 hF
    generalize w1.alloc (.cells (vrow m) 21) = w2 at *
    generalize w1.heap.size = nb at *
    go_wp2_with fail
    go_loopw [5, 20] (fun s5 s20 wr => ∃ j : Nat, j ≤ m ∧ s20 = .int .i64 j ∧ s5 = .bool ((rdInts j r2 e2).1.all fit32) ∧ Hid (GI w wr rb nb m j r2 e2)) (fun _ s20 _ => m - (RowKit.intOf s20).toNat)
    case atStart => exact ⟨0, Nat.zero_le _, rfl, rfl, HI0⟩
    case round =>
      clear HI0
      obtain ⟨j, hj, rfl, rfl, HI⟩ := hrel
      by_cases hlt : j < m
      · obtain ⟨a4, c4, hR⟩ := HI.out.rd
        have HS : Hid ((rdInts (j + 1) r2 e2).1.all fit32 = ((rdInts j r2 e2).1.all fit32 && fit32 (rdInt (rdSt j r2 e2).1 (rdSt j r2 e2).2).1)) := by
          show _ = _
          rw [rdInts_snoc, List.all_append]
          simp
        have hfx := rdInt_fit (rdSt j r2 e2).1 (rdSt j r2 e2).2
        generalize (rdInts j r2 e2).1.all fit32 = q at *
        go_wp2_with fail
        refine (rint_any hR).mono ?_
        rintro e w4 ⟨a5, c5, rfl, hR5, hk5, _⟩
        obtain ⟨⟨y0, y1⟩, hI2⟩ := HI.out.step hlt hR5 hk5
        have HI2 : Hid (GI w (w4.setCell ⟨nb, j, none⟩ (.int .i32 (wrap32 (rdInt (rdSt j r2 e2).1 (rdSt j r2 e2).2).1))) rb nb m (j + 1) r2 e2) := hI2
        clear hI2 hR5 hk5 hR HI
        generalize (rdInt (rdSt j r2 e2).1 (rdSt j r2 e2).2).1 = x at *
        cases q with
        | false =>
          go_wp2_with fail
          exact ⟨⟨j + 1, hlt, rfl, by rw [HS.out]; rfl, HI2⟩, by simp [RowKit.intOf]; omega⟩
        | true =>
          go_wp2_with fail
          exact ⟨⟨j + 1, hlt, rfl, by rw [HS.out, Bool.true_and, fit32_walk], HI2⟩, by simp [RowKit.intOf]; omega⟩
      · obtain rfl : j = m := by omega
        obtain ⟨a4, c4, hR⟩ := HI.out.rd
        have c1 := hR.c1
        have HR : Hid (RdAt wr rb (rdSt j r2 e2).1 a4 c4 (rdSt j r2 e2).2) := hR
        cases hq : (rdInts j r2 e2).1.all fit32 with
        | false =>
          have HE : Hid (GetP rb (getV s err) w (.slice none 0 0) wr) := by
            show GetP _ _ _ _ _
            rw [HG2.out, hq]
            exact ⟨a4, c4, by simp, hR, HI.out.k⟩
          clear hR HR c1 HG2 HI
          go_wp2_with fail
          go_ret
          exact ⟨_, rfl, HE.out⟩
        | true =>
          have HV : Hid (VecR wr w.heap.size (.slice (some ⟨nb, 0, none⟩) j j) (rdInts j r2 e2).1) := HI.out.done hq hm
          have HE : Hid (GetP rb (getV s err) w (if (rdSt j r2 e2).2 = 0 then .slice (some ⟨nb, 0, none⟩) j j else .slice none 0 0) wr) := by
            show GetP _ _ _ _ _
            rw [HG2.out, hq]
            refine ⟨a4, c4, ?_, hR, HI.out.k⟩
            by_cases h0 : (rdSt j r2 e2).2 = 0
            · simp only [h0, and_self, if_true]; exact HV.out
            · simp [h0]
          clear hR HR HG2 HI HV
          generalize (rdSt j r2 e2).2 = er at *
          go_wp2_with fail
          refine (rerr_cell rb _ wr c1).mono ?_
          rintro e w5 ⟨rfl, rfl⟩
          by_cases h0 : er = 0
          · subst h0
            have HE2 : Hid (GetP rb (getV s err) w (.slice (some ⟨nb, 0, none⟩) j j) w5) := HE.out
            clear HE c1
            go_wp2_with fail
            go_ret
            exact ⟨_, rfl, HE2.out⟩
          · have HE2 : Hid (GetP rb (getV s err) w (.slice none 0 0) w5) := by
              have := HE.out
              rw [if_neg h0] at this
              exact this
            clear HE c1
            go_wp2_with fail
            go_ret
            exact ⟨_, rfl, HE2.out⟩
end Go.Proofs.YteaacodloabdcaaGreatDoor
