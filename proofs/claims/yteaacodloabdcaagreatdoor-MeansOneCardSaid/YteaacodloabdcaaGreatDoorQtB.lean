import Derived.Test.YteaacodloabdcaaGreatDoorMnA
import Derived.Test.YteaacodloabdcaaGreatDoorMtA
import Derived.Test.YteaacodloabdcaaGreatDoorVcD
namespace Go.Proofs.YteaacodloabdcaaGreatDoor
open Go.RowKit Go.Maps

set_option maxRecDepth 100000 in
set_option maxHeartbeats 1000000 in
theorem codeOf_at (lo st n : Int) (hl : -2147483648 ≤ lo ∧ lo ≤ 2147483647) (hs : 1 ≤ st ∧ st ≤ 2147483647) (hn : -2147483648 ≤ n ∧ n ≤ 2147483647) (w : World) :
    Calls Tryz.prog 64 #[.int .i64 lo, .int .i64 st, .int .i64 n] w fun e w' => e = .returned (.int .u8 (codeZ lo st n)) ∧ w' = w := by
  have HT : Hid (min (max ((n - lo + st / 2).tdiv st) 0) 255 = codeZ lo st n) := codeZ_trunc hs.1
  rw [← HT.out]
  clear HT
  go_enter Tryz.func64, Tryz.ntmps64
  go_wp2_with fail
  go_ret
  exact ⟨rfl, rfl⟩
/-- A book as it is handed over. -/
def bookV (la : Option Addr) (ln lc : Nat) (sa : Option Addr) (sn sc : Nat) : Value := .agg #[.slice la ln lc, .slice sa sn sc]
/-- A book in memory. -/
structure BookAt (w : World) (la : Option Addr) (ln lc : Nat) (sa : Option Addr) (sn sc : Nat) (L S : List Int) : Prop where
  low : VecAt w la ln lc L
  step : VecAt w sa sn sc S
theorem BookAt.all {w w' : World} {la : Option Addr} {ln lc : Nat} {sa : Option Addr} {sn sc : Nat} {L S : List Int} (h : BookAt w la ln lc sa sn sc L S) (hb : Below w.heap.size w w') : BookAt w' la ln lc sa sn sc L S := ⟨h.low.all hb, h.step.all hb⟩
theorem fineB_ne {L S : List Int} (h : L.length ≠ S.length) : fineB L S = false := by simp [fineB, h]
theorem fineB_all {L S : List Int} (h : L.length = S.length) (hs : ∀ j, j < S.length → 1 ≤ S.getD j 0) : fineB L S = true := by
  unfold fineB
  rw [decide_eq_true h, Bool.true_and, List.all_eq_true]
  intro x hx
  obtain ⟨j, hj, rfl⟩ := List.getElem_of_mem hx
  have := hs j hj
  simpa [List.getD, hj] using this
theorem fineB_one {L S : List Int} (j : Nat) (hj : j < S.length) (h : S.getD j 0 < 1) : fineB L S = false := by
  unfold fineB
  have : S.all (fun s => decide (1 ≤ s)) = false := by
    rw [List.all_eq_false]
    refine ⟨S[j], List.getElem_mem hj, ?_⟩
    have e : S.getD j 0 = S[j] := by simp [List.getD, hj]
    rw [e] at h
    simp; omega
  rw [this, Bool.and_false]
set_option maxRecDepth 100000 in
set_option maxHeartbeats 1000000 in
theorem fits_at {w : World} {la : Option Addr} {ln lc : Nat} {sa : Option Addr} {sn sc : Nat} {L S : List Int} (h : BookAt w la ln lc sa sn sc L S) (hn : sn ≤ 1000000000) (hl : ln ≤ 1000000000) :
    Calls Tryz.prog 62 #[bookV la ln lc sa sn sc] w fun e w' => e = .returned (.bool (fineB L S)) ∧ Below w.heap.size w w' := by
  have hb1 : Below w.heap.size w (w.alloc (.cells #[.slice la ln lc, .slice sa sn sc] 60)) := (Below.refl _ w).alloc (Nat.le_refl _) _
  have HS : Hid (VecAt (w.alloc (.cells #[.slice la ln lc, .slice sa sn sc] 60)) sa sn sc S) := h.step.all hb1
  have HB : Hid (Below w.heap.size w (w.alloc (.cells #[.slice la ln lc, .slice sa sn sc] 60))) := hb1
  have HL : Hid (L.length = ln) := h.low.len
  clear h hb1
  unfold bookV
  by_cases hne : ln = sn
  · subst hne
    go_enter Tryz.func62, Tryz.ntmps62
    go_wp2_with fail
    generalize w.alloc (.cells #[.slice la ln lc, .slice sa ln sc] 60) = w1 at *
    go_loopw [15] (fun s15 wr => ∃ j : Nat, j ≤ ln ∧ s15 = .int .i64 j ∧ Hid (∀ i, i < j → 1 ≤ S.getD i 0) ∧ Hid (wr = w1)) (fun s15 _ => ln - (RowKit.intOf s15).toNat)
    case atStart => exact ⟨0, Nat.zero_le _, rfl, (fun i hi => by omega), rfl⟩
    case round =>
      obtain ⟨j, hj, rfl, HI, hwr⟩ := hrel
      have hw := hwr.out
      subst hw
      clear hwr
      by_cases hlt : j < ln
      · obtain ⟨g1, o1, rfl, _, c1, x1, x2⟩ := HS.out.cell j hlt
        by_cases hx : S.getD j 0 < 1
        · have HF : Hid (fineB L S = false) := fineB_one j (by rw [HS.out.len]; exact hlt) hx
          generalize S.getD j 0 = x at *
          go_wp2_with fail
          go_ret
          exact ⟨by rw [HF.out]; rfl, HB.out⟩
        · have HN : Hid (∀ i, i < j + 1 → 1 ≤ S.getD i 0) := fun i hi => by
            rcases (show i < j ∨ i = j by omega) with e | rfl
            · exact HI.out i e
            · omega
          generalize S.getD j 0 = x at *
          go_wp2_with fail
          exact ⟨⟨j + 1, hlt, rfl, HN, trivial⟩, by simp [RowKit.intOf]; omega⟩
      · obtain rfl : j = ln := by omega
        have HF : Hid (fineB L S = true) := fineB_all (by rw [HL.out, HS.out.len]) (fun i hi => HI.out i (by rw [HS.out.len] at hi; exact hi))
        go_wp2_with fail
        go_ret
        exact ⟨by rw [HF.out]; rfl, HB.out⟩
  · have HF : Hid (fineB L S = false) := fineB_ne (by rw [HL.out, HS.out.len]; exact hne)
    rw [HF.out]
    go_enter Tryz.func62, Tryz.ntmps62
    go_wp2_with fail
    go_ret
    exact ⟨rfl, HB.out⟩
end Go.Proofs.YteaacodloabdcaaGreatDoor

namespace Go.Proofs.YteaacodloabdcaaGreatDoor
open Go.RowKit Go.Maps

/-- Beside a book's box: the call's own. -/
structure BoxQ (w wr : World) (la : Option Addr) (ln lc : Nat) (sa : Option Addr) (sn sc : Nat) (L S : List Int) : Prop where
  b : BookAt wr la ln lc sa sn sc L S
  c0 : wr.cell? ⟨w.heap.size, 0, none⟩ = some (.slice la ln lc)
  c1 : wr.cell? ⟨w.heap.size, 1, none⟩ = some (.slice sa sn sc)
  u : Below w.heap.size w wr
theorem BoxQ.below {w wr w' : World} {la : Option Addr} {ln lc : Nat} {sa : Option Addr} {sn sc : Nat} {L S : List Int} (h : BoxQ w wr la ln lc sa sn sc L S) (hb : Below wr.heap.size wr w') : BoxQ w w' la ln lc sa sn sc L S := by
  obtain ⟨h1, h2, h3, h4⟩ := h
  have hl : w.heap.size < wr.heap.size := World.block_lt_of_cell? wr _ h2
  exact ⟨h1.all hb, (hb.cell (p := ⟨w.heap.size, 0, none⟩) hl).trans h2, (hb.cell (p := ⟨w.heap.size, 1, none⟩) hl).trans h3, h4.trans (hb.mono h4.size)⟩
theorem BoxQ.start {w : World} {la : Option Addr} {ln lc : Nat} {sa : Option Addr} {sn sc : Nat} {L S : List Int} (h : BookAt w la ln lc sa sn sc L S) : BoxQ w (w.alloc (.cells #[.slice la ln lc, .slice sa sn sc] 60)) la ln lc sa sn sc L S := by
  have hb1 : Below w.heap.size w (w.alloc (.cells #[.slice la ln lc, .slice sa sn sc] 60)) := (Below.refl _ w).alloc (Nat.le_refl _) _
  refine ⟨h.all hb1, ?_, ?_, hb1⟩
  · simp
  · simp
def boundV (L S : List Int) : Int := if fineB L S then boundZ S else 0
def codesV (L S V : List Int) : List Int := if fineB L S then codesZ L S V else []
def backsV (L S C : List Int) : List Int := if fineB L S then backsZ L S C else []
theorem fineB_yes {L S : List Int} (hf : fineB L S = true) : L.length = S.length ∧ ∀ s ∈ S, 1 ≤ s := by
  unfold fineB at hf
  rw [Bool.and_eq_true, decide_eq_true_iff, List.all_eq_true] at hf
  exact ⟨hf.1, fun s hs => of_decide_eq_true (hf.2 s hs)⟩
set_option maxRecDepth 100000 in
set_option maxHeartbeats 1000000 in
theorem bound_at {w : World} {la : Option Addr} {ln lc : Nat} {sa : Option Addr} {sn sc : Nat} {L S : List Int} (h : BookAt w la ln lc sa sn sc L S) (hn : sn ≤ 1000000000) (hl : ln ≤ 1000000000) :
    Calls Tryz.prog 34 #[bookV la ln lc sa sn sc] w fun e w' => e = .returned (.int .i32 (boundV L S)) ∧ Below w.heap.size w w' := by
  have HQ0 : Hid (BoxQ w (w.alloc (.cells #[.slice la ln lc, .slice sa sn sc] 60)) la ln lc sa sn sc L S) := BoxQ.start h
  clear h
  unfold bookV
  go_enter Tryz.func34, Tryz.ntmps34
  go_wp2_with fail
  refine (fits_at HQ0.out.b hn hl).mono ?_
  rintro e w2 ⟨rfl, hb2⟩
  have HQ : Hid (BoxQ w w2 la ln lc sa sn sc L S) := HQ0.out.below hb2
  clear HQ0 hb2
  by_cases hf : fineB L S = true
  · have HF : Hid (fineB L S = true) := hf
    have HL : Hid (L.length = S.length ∧ ∀ s ∈ S, 1 ≤ s) := fineB_yes hf
    rw [hf]
    clear hf
    have c0 := HQ.out.c0
    have c1 := HQ.out.c1
    go_wp2_with fail
    go_loopw [3, 12] (fun s3 s12 wr => ∃ j : Nat, j ≤ sn ∧ s12 = .int .i64 j ∧ s3 = .int .i64 (boundZ (S.take j)) ∧ Hid (wr = w2)) (fun _ s12 _ => sn - (RowKit.intOf s12).toNat)
    case atStart => exact ⟨0, Nat.zero_le _, rfl, rfl, rfl⟩
    case round =>
      obtain ⟨j, hj, rfl, rfl, hwr⟩ := hrel
      have hw := hwr.out
      subst hw
      clear hwr
      by_cases hlt : j < sn
      · obtain ⟨g1, o1, rfl, _, d1, x1, x2⟩ := HQ.out.b.step.cell j hlt
        have HB : Hid (boundZ (S.take (j + 1)) = max (boundZ (S.take j)) ((S.getD j 0 + 1) / 2)) := by
          show _ = _
          rw [take_snoc (by rw [HQ.out.b.step.len]; exact hlt), boundZ_snoc]
        have x3 : 1 ≤ S.getD j 0 := by
          refine HL.out.2 _ ?_
          have hjl : j < S.length := by rw [HQ.out.b.step.len]; exact hlt
          rw [List.getD_eq_getElem?_getD, List.getElem?_eq_getElem hjl]; exact List.getElem_mem _
        have y1 := boundZ_pos (S.take j)
        have y2 := boundZ_top (S.take j) (fun s hs => (HQ.out.b.step.fit s (List.mem_of_mem_take hs)).2)
        generalize S.getD j 0 = x at *
        generalize boundZ (S.take j) = s at *
        go_wp2_with fail
        exact ⟨⟨j + 1, hlt, rfl, by rw [HB.out], trivial⟩, by simp [RowKit.intOf]; omega⟩
      · obtain rfl : j = sn := by omega
        have hE : S.take j = S := List.take_of_length_le (by rw [HQ.out.b.step.len]; exact Nat.le_refl _)
        have y1 := boundZ_pos S
        have y2 := boundZ_top S (fun s hs => (HQ.out.b.step.fit s hs).2)
        rw [hE]
        clear hE
        have HZ : Hid (boundV L S = boundZ S) := if_pos HF.out
        go_wp2_with fail
        go_ret
        exact ⟨by rw [HZ.out]; rfl, HQ.out.u⟩
  · have HZ : Hid (boundV L S = 0) := if_neg hf
    rw [show fineB L S = false by simpa using hf]
    clear hf
    go_wp2_with fail
    go_ret
    exact ⟨by rw [HZ.out]; rfl, HQ.out.u⟩
end Go.Proofs.YteaacodloabdcaaGreatDoor

namespace Go.Proofs.YteaacodloabdcaaGreatDoor
open Go.RowKit Go.Maps

/-- Bytes that a slice reads. -/
structure ByAt (w : World) (a : Option Addr) (n c : Nat) (A : List Int) : Prop where
  len : A.length = n
  cap : n ≤ c
  fit : ∀ x ∈ A, 0 ≤ x ∧ x ≤ 255
  at_ : n = 0 ∨ ∃ b o, a = some ⟨b, o, none⟩ ∧ b < w.heap.size ∧ ∀ j, j < n → w.cell? ⟨b, o + j, none⟩ = some (.int .u8 (A.getD j 0))
theorem ByAt.keep {S : Nat → Prop} {w w' : World} {a : Option Addr} {n c : Nat} {A : List Int} (h : ByAt w a n c A) (hk : Keeps S w w') (hs : ∀ q : Addr, a = some q → ¬ S q.block) : ByAt w' a n c A :=
  { h with
    at_ := by
      rcases h.at_ with h0 | ⟨b, o, e, hb, hc⟩
      · exact Or.inl h0
      · exact Or.inr ⟨b, o, e, Nat.lt_of_lt_of_le hb hk.size, fun j hj => (hk.cell (p := ⟨b, o + j, none⟩) hb (hs ⟨b, o, none⟩ e)).trans (hc j hj)⟩ }
theorem ByAt.below {w w' : World} {L : Nat} {a : Option Addr} {n c : Nat} {A : List Int} (h : ByAt w a n c A) (hb : Below L w w') (hl : ∀ q : Addr, a = some q → q.block < L) : ByAt w' a n c A :=
  { h with
    at_ := by
      rcases h.at_ with h0 | ⟨b, o, e, h1, hc⟩
      · exact Or.inl h0
      · exact Or.inr ⟨b, o, e, Nat.lt_of_lt_of_le h1 hb.size, fun j hj => (hb.cell (p := ⟨b, o + j, none⟩) (hl ⟨b, o, none⟩ e)).trans (hc j hj)⟩ }
theorem ByAt.all {w w' : World} {a : Option Addr} {n c : Nat} {A : List Int} (h : ByAt w a n c A) (hb : Below w.heap.size w w') : ByAt w' a n c A :=
  { h with
    at_ := by
      rcases h.at_ with h0 | ⟨b, o, e, h1, hc⟩
      · exact Or.inl h0
      · exact Or.inr ⟨b, o, e, Nat.lt_of_lt_of_le h1 hb.size, fun j hj => (hb.cell (p := ⟨b, o + j, none⟩) h1).trans (hc j hj)⟩ }
theorem ByAt.head {w : World} {a : Option Addr} {n c : Nat} {A : List Int} (h : ByAt w a n c A) (k : Nat) (hk : k ≤ n) : ByAt w a k c (A.take k) := {
  len := by rw [List.length_take, h.len]; omega
  cap := by have := h.cap; omega
  fit := fun x hx => h.fit x (List.mem_of_mem_take hx)
  at_ := by
    rcases h.at_ with h0 | ⟨b, o, e, h1, hc⟩
    · exact Or.inl (by omega)
    · refine Or.inr ⟨b, o, e, h1, fun j hj => ?_⟩
      rw [hc j (by omega)]
      simp [List.getD, hj] }
theorem ByAt.cell {w : World} {a : Option Addr} {n c : Nat} {A : List Int} (h : ByAt w a n c A) (j : Nat) (hj : j < n) : ∃ b o, a = some ⟨b, o, none⟩ ∧ b < w.heap.size ∧ w.cell? ⟨b, o + j, none⟩ = some (.int .u8 (A.getD j 0)) ∧ 0 ≤ A.getD j 0 ∧ A.getD j 0 ≤ 255 := by
  rcases h.at_ with h0 | ⟨b, o, e, h1, hc⟩
  · omega
  · have hl := h.len
    have hm : A.getD j 0 ∈ A := by
      rw [List.getD_eq_getElem?_getD, List.getElem?_eq_getElem (by omega)]; exact List.getElem_mem _
    exact ⟨b, o, e, h1, hc j hj, h.fit _ hm⟩
theorem infoU8b : (Tryz.prog.info? 5).map (fun i => (i.zero, i.size, i.bytes)) = some (some (.int .u8 0), 1, 1) := by kernel_rfl
/-- Bytes that a call has made. -/
def ByR (w : World) (lo : Nat) (v : Value) (A : List Int) : Prop := w.ownsRow lo 5 1 v A.length (A.map (Value.int .u8))
theorem ByR.nil (w : World) (lo : Nat) : ByR w lo (.slice none 0 0) [] := World.ownsRow_nil _ _ _ _
theorem ByR.keep {S : Nat → Prop} {w w' : World} {lo : Nat} {v : Value} {A : List Int} (h : ByR w lo v A) (hk : Keeps S w w') (hs : ∀ i, lo ≤ i → ¬ S i) : ByR w' lo v A := ownsRow_stay h hk hs
theorem ByR.below {w w' : World} {lo : Nat} {v : Value} {A : List Int} (h : ByR w lo v A) (hb : Below w.heap.size w w') : ByR w' lo v A := h.keep (Keeps.of_below (S := fun _ => False) hb) (fun _ _ e => e)
theorem ByR.toAt {w : World} {lo : Nat} {v : Value} {A : List Int} (h : ByR w lo v A) (hf : ∀ x ∈ A, 0 ≤ x ∧ x ≤ 255) : ∃ p c, v = .slice p A.length c ∧ ByAt w p A.length c A ∧ ∀ q, p = some q → lo ≤ q.block ∧ q.off = 0 := by
  rcases h.2 with ⟨rfl, h0⟩ | ⟨g, cap, cur, rfl, hg, hH, hc, _, _, htk⟩
  · refine ⟨none, 0, by rw [h0], ⟨rfl, by omega, hf, Or.inl h0⟩, fun q e => by cases e⟩
  · refine ⟨_, cap, rfl, ⟨rfl, hc, hf, Or.inr ⟨g, 0, rfl, (Array.getElem?_eq_some_iff.1 hH).1, fun j hj => ?_⟩⟩, fun q e => by cases e; exact ⟨hg, rfl⟩⟩
    rw [Nat.zero_add, cell_of_row _ _ j _ 5 (0, 0) hH]
    have : (cur.toList.take (A.length * 1))[j]? = some (.int .u8 (A.getD j 0)) := by
      rw [htk, List.getElem?_map, List.getElem?_eq_getElem hj]; simp [List.getD, hj]
    rw [List.getElem?_take, if_pos (by omega)] at this
    simpa using this
theorem ByR.set {w : World} {lo g n c : Nat} {A : List Int} (h : ByR w lo (.slice (some ⟨g, 0, none⟩) n c) A) (j : Nat) (x : Int) : ByR (w.setCell ⟨g, j, none⟩ (.int .u8 x)) lo (.slice (some ⟨g, 0, none⟩) n c) (A.set j x) := by
  have hl : A.length = n := by
    rcases h.2 with ⟨e, _⟩ | ⟨g', cap, cur, e, _⟩
    · cases e
    · injection e with _ e _
      exact e.symm
  have h0 : w.ownsRow lo 5 1 (.slice (some ⟨g, 0, none⟩) n c) n (A.map (Value.int .u8)) := by
    have h := h
    unfold ByR at h
    rw [hl] at h
    exact h
  have := (h0.stored j (.int .u8 x)).1
  rw [← List.map_set] at this
  show World.ownsRow _ _ _ _ _ _ _
  rw [List.length_set, hl]
  exact this
theorem ByR.soft {w : World} {lo g n c : Nat} {A : List Int} (h : ByR w lo (.slice (some ⟨g, 0, none⟩) n c) A) (o : Nat) : w.frozen? ⟨g, o, none⟩ = false := by
  rcases h.2 with ⟨e, _⟩ | ⟨g', cap, cur, e, _, hH, _⟩
  · cases e
  · injection e with e _ _
    injection e with e
    injection e with e
    subst e
    exact frozen_of_row _ _ o _ 5 hH
theorem ByR.cell {w : World} {lo g n c : Nat} {A : List Int} (h : ByR w lo (.slice (some ⟨g, 0, none⟩) n c) A) (j : Nat) (hj : j < A.length) : w.cell? ⟨g, j, none⟩ = some (.int .u8 (A.getD j 0)) := by
  rcases h.2 with ⟨e, _⟩ | ⟨g', cap, cur, e, hg, hH, hc, _, _, htk⟩
  · cases e
  · injection e with e _ _
    injection e with e
    injection e with e
    subst e
    rw [cell_of_row _ _ j _ 5 (0, 0) hH]
    have : (cur.toList.take (A.length * 1))[j]? = some (.int .u8 (A.getD j 0)) := by
      rw [htk, List.getElem?_map, List.getElem?_eq_getElem hj]; simp [List.getD, hj]
    rw [List.getElem?_take, if_pos (by omega)] at this
    simpa using this
def brow8 (n : Nat) : Array Value := (List.replicate n (Value.int .u8 0)).toArray
theorem mkBy (n : Nat) (h : n ≤ 1000) (w : World) : (Instr.makeSlice 67 (.int .i64 n) (.int .i64 n)).run Tryz.prog w = .ok (.slice (some ⟨w.heap.size, 0, none⟩) n n) (w.alloc (.cells (brow8 n) 5)) := by
  have hx := infoU8b
  cases hq : Tryz.prog.info? 5 with
  | none => rw [hq] at hx; cases hx
  | some i =>
    rw [hq] at hx
    simp only [Option.map_some, Option.some.injEq, Prod.mk.injEq] at hx
    obtain ⟨h1, h2, h3⟩ := hx
    rw [run_make w 67 5 i _ Tryz.underlying67 hq h1 .i64 .i64 n n (by omega) (by omega) (by rw [h3]; omega) (by omega)]
    have e : madeCells (Value.int .u8 0).cells ((n : Int).toNat * i.size) = brow8 n := by
      rw [h2]
      show madeCells #[.int .u8 0] (n * 1) = _
      unfold madeCells brow8
      apply Array.ext
      · simp
      · intro j hj1 hj2
        simp [Nat.mod_one]
    rw [e]
    simp
theorem new_by (n : Nat) (h : n ≤ 1000) (w : World) : ByR (w.alloc (.cells (brow8 n) 5)) w.heap.size (.slice (some ⟨w.heap.size, 0, none⟩) n n) (List.replicate n 0) := by
  show World.ownsRow _ _ _ _ _ _ _
  refine ⟨by simp, .inr ⟨w.heap.size, n, brow8 n, by simp, Nat.le_refl _, heap_alloc_last w _, by simp, by unfold maxLen; omega, by simp [brow8], by simp [brow8]⟩⟩
end Go.Proofs.YteaacodloabdcaaGreatDoor
