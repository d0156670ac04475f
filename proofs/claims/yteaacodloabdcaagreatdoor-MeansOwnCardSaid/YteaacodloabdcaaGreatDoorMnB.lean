import Derived.Test.YteaacodloabdcaaGreatDoorMnA
import Derived.Test.YteaacodloabdcaaGreatDoorQvA
import Derived.Test.YteaacodloabdcaaGreatDoorBsA
import Derived.Test.YteaacodloabdcaaGreatDoorVcA
import Derived.Deep.AppendLies
namespace Go.Proofs.YteaacodloabdcaaGreatDoor
open Go.RowKit Go.Maps

/-- The scores of middles to a vector; the nearest one. -/
def scF (MS : List (List Int)) (V : List Int) (i : Nat) : Int := scoreW 1 (MS.getD i []) V
def nearL (MS : List (List Int)) (V : List Int) : Int := argT (scF MS V) MS.length
set_option maxRecDepth 100000 in
set_option maxHeartbeats 1000000 in
theorem near_at {w : World} {a p : Option Addr} {m c n cc : Nat} {MS : List (List Int)} {V : List Int} (h : VecsAt w a m c MS) (hv : VecAt w p n cc V) (hm : m ≤ 1000000) (hd : ∀ i, i < m → (MS.getD i []).length ≤ 1000000000) :
    Calls Tryz.prog 31 #[.slice a m c, .slice p n cc] w fun e w' => e = .returned (.int .i64 (nearL MS V)) ∧ Below w.heap.size w w' := by
  have HV : Hid (VecsAt w a m c MS) := h
  have HP : Hid (VecAt w p n cc V) := hv
  have HL : Hid (MS.length = m) := h.len
  unfold nearL
  rw [HL.out]
  have HF : Hid (∀ i, scoreW 1 (MS.getD i []) V = scF MS V i) := fun i => rfl
  have HK : Hid (∀ j, -1 ≤ argT (scF MS V) j ∧ argT (scF MS V) j < j ∧ (argT (scF MS V) j < 0 → j = 0)) := argT_low _
  clear h hv HL
  go_enter Tryz.func31, Tryz.ntmps31
  go_wp2_with fail
  go_loopw [5, 6, 12] (fun s5 s6 s12 wr => ∃ j : Nat, j ≤ m ∧ s12 = .int .i64 j ∧ s5 = .int .i64 (argT (scF MS V) j) ∧ s6 = .int .i64 (lstT (scF MS V) j) ∧ Hid (Below w.heap.size w wr)) (fun _ _ s12 _ => m - (RowKit.intOf s12).toNat)
  case atStart => exact ⟨0, Nat.zero_le _, rfl, rfl, rfl, Below.refl _ _⟩
  case round =>
    obtain ⟨j, hj, rfl, rfl, rfl, HW⟩ := hrel
    by_cases hlt : j < m
    · obtain ⟨b, o, q, k, kc, rfl, hb, hc, hk, hvj⟩ := HV.out.at_ j hlt
      have hc1 := (HW.out.cell (p := ⟨b, o + j, none⟩) hb).trans hc
      have HVJ : Hid (VecAt wr q k kc (MS.getD j [])) := hvj.all HW.out
      have HPW : Hid (VecAt wr p n cc V) := HP.out.all HW.out
      have HS : Hid (Calls Tryz.prog 9 #[.int .i64 1, .slice q k kc, .slice p n cc] wr fun e w' => e = .returned (.int .i64 (scF MS V j)) ∧ Below wr.heap.size wr w') := by
        have := score_at 1 HVJ.out HPW.out (by rw [← HVJ.out.len]; exact hd j hlt)
        rw [HF.out j] at this
        exact this
      clear hb hc hvj HVJ HPW
      rcases (show j = 0 ∨ (0 < j ∧ scF MS V j < lstT (scF MS V) j) ∨ (0 < j ∧ ¬ scF MS V j < lstT (scF MS V) j) by omega) with h0 | ⟨h0, h1⟩ | ⟨h0, h1⟩
      · subst h0
        rw [argT_zero]
        rw [Nat.add_zero] at hc1
        have HN : Hid (argT (scF MS V) 1 = 0 ∧ lstT (scF MS V) 1 = scF MS V 0) := lst_first _
        generalize scF MS V 0 = x at *
        generalize lstT (scF MS V) 0 = y at *
        go_wp2_with fail
        refine HS.out.mono ?_
        rintro e w2 ⟨rfl, hb2⟩
        have HB2 : Hid (Below w.heap.size w w2) := HW.out.trans (hb2.mono HW.out.size)
        clear hb2 HS HW
        go_wp2_with fail
        exact ⟨⟨1, by omega, rfl, by rw [HN.out.1], by rw [HN.out.2], HB2⟩, by simp [RowKit.intOf]; omega⟩
      · have HN : Hid (argT (scF MS V) (j + 1) = j ∧ lstT (scF MS V) (j + 1) = scF MS V j) := lst_yes _ j h0 h1
        have h2 : 0 ≤ argT (scF MS V) j := by have := HK.out j; omega
        generalize scF MS V j = x at *
        generalize lstT (scF MS V) j = y at *
        generalize argT (scF MS V) j = z at *
        go_wp2_with fail
        refine HS.out.mono ?_
        rintro e w2 ⟨rfl, hb2⟩
        have HB2 : Hid (Below w.heap.size w w2) := HW.out.trans (hb2.mono HW.out.size)
        clear hb2 HS HW
        go_wp2_with fail
        exact ⟨⟨j + 1, hlt, rfl, by rw [HN.out.1], by rw [HN.out.2], HB2⟩, by simp [RowKit.intOf]; omega⟩
      · have HN : Hid (argT (scF MS V) (j + 1) = argT (scF MS V) j ∧ lstT (scF MS V) (j + 1) = lstT (scF MS V) j) := lst_no _ j h0 h1
        have h2 : 0 ≤ argT (scF MS V) j := by have := HK.out j; omega
        generalize scF MS V j = x at *
        generalize lstT (scF MS V) j = y at *
        generalize argT (scF MS V) j = z at *
        go_wp2_with fail
        refine HS.out.mono ?_
        rintro e w2 ⟨rfl, hb2⟩
        have HB2 : Hid (Below w.heap.size w w2) := HW.out.trans (hb2.mono HW.out.size)
        clear hb2 HS HW
        go_wp2_with fail
        exact ⟨⟨j + 1, hlt, rfl, by rw [HN.out.1], by rw [HN.out.2], HB2⟩, by simp [RowKit.intOf]; omega⟩
    · obtain rfl : j = m := by omega
      go_wp2_with fail
      go_ret
      exact ⟨rfl, HW.out⟩
set_option maxRecDepth 100000 in
set_option maxHeartbeats 1000000 in
theorem part_wp (a b : Int) (ha : -1000000000000 ≤ a ∧ a ≤ 1000000000000) (hb : 1 ≤ b ∧ b ≤ 2147483647) (w : World) :
    Calls Tryz.prog 92 #[.int .i64 a, .int .i64 b] w fun e w' => e = .returned (.int .i64 (a / b)) ∧ w' = w := by
  have HD : Hid ((if a.tmod b < 0 then a.tdiv b - 1 else a.tdiv b) = a / b) := part_at (by omega)
  have h3 : -1000000000000 ≤ a.tdiv b ∧ a.tdiv b ≤ 1000000000000 := by
    have h1 : (a.tdiv b).natAbs ≤ a.natAbs := by rw [Int.natAbs_tdiv]; exact Nat.div_le_self _ _
    omega
  by_cases h : a.tmod b < 0
  · have HD2 : Hid (a.tdiv b - 1 = a / b) := by have := HD.out; rwa [if_pos h] at this
    rw [← HD2.out]
    clear HD HD2
    go_enter Tryz.func92, Tryz.ntmps92
    go_wp2_with fail
    go_ret
    exact ⟨rfl, rfl⟩
  · have HD2 : Hid (a.tdiv b = a / b) := by have := HD.out; rwa [if_neg h] at this
    rw [← HD2.out]
    clear HD HD2
    go_enter Tryz.func92, Tryz.ntmps92
    go_wp2_with fail
    go_ret
    exact ⟨rfl, rfl⟩
end Go.Proofs.YteaacodloabdcaaGreatDoor

namespace Go.Proofs.YteaacodloabdcaaGreatDoor
open Go.RowKit Go.Maps

set_option maxRecDepth 100000 in
set_option maxHeartbeats 1000000 in
theorem hasf_at {w : World} {a b : Option Addr} {m n c d g : Nat} {A B : List Int} (hA : VecAt w a m c A) (hB : VecAt w b n d B) (hm : m ≤ 1000000000) (hg : w.cell? ⟨g, 0, none⟩ = some (.slice b n d)) :
    Calls Tryz.prog 91 #[.slice a m c, .pointer (some ⟨g, 0, none⟩)] w fun e w' => e = .returned (.bool (decide (A = B))) ∧ Below w.heap.size w w' := by
  have HC := eq_at hA hB hm
  generalize decide (A = B) = q at *
  clear hA hB
  go_enter Tryz.func91, Tryz.ntmps91
  go_wp2_with fail
  refine HC.mono ?_
  rintro e w' ⟨rfl, hb⟩
  go_wp2_with fail
  go_ret
  exact ⟨rfl, hb⟩
theorem mem_take_getD {MS : List (List Int)} {V : List Int} (h : V ∈ MS) : ∃ i, i < MS.length ∧ MS.getD i [] = V := by
  obtain ⟨i, hi, e⟩ := List.mem_iff_getElem.1 h
  exact ⟨i, hi, by simp [List.getD, hi, e]⟩
set_option maxRecDepth 100000 in
set_option maxHeartbeats 1000000 in
theorem idx_at {w : World} {a p : Option Addr} {m c n cc g : Nat} {MS : List (List Int)} {V : List Int} (h : VecsAt w a m c MS) (hv : VecAt w p n cc V) (hg : w.cell? ⟨g, 0, none⟩ = some (.slice p n cc)) (hm : m ≤ 1000000) (hd : ∀ i, i < m → (MS.getD i []).length ≤ 1000000000) :
    Calls Tryz.prog 143 #[.slice a m c, .func (.func 91) #[] #[.pointer (some ⟨g, 0, none⟩)]] w fun e w' => ∃ k : Int, e = .returned (.int .i64 k) ∧ decide (0 ≤ k) = decide (V ∈ MS) ∧ -1 ≤ k ∧ k < 1000000 ∧ Below w.heap.size w w' := by
  have HV : Hid (VecsAt w a m c MS) := h
  have HP : Hid (VecAt w p n cc V) := hv
  have HL : Hid (MS.length = m) := h.len
  have hgl : g < w.heap.size := World.block_lt_of_cell? w _ hg
  clear h hv
  go_enter Tryz.func143, Tryz.ntmps143
  go_wp2_with fail
  go_loopw [8] (fun s8 wr => ∃ j : Nat, j ≤ m ∧ s8 = .int .i64 j ∧ Hid (Below w.heap.size w wr ∧ ∀ i, i < j → MS.getD i [] ≠ V)) (fun s8 _ => m - (RowKit.intOf s8).toNat)
  case atStart => exact ⟨0, Nat.zero_le _, rfl, Below.refl _ _, fun i h => absurd h (Nat.not_lt_zero _)⟩
  case round =>
    obtain ⟨j, hj, rfl, HW⟩ := hrel
    by_cases hlt : j < m
    · obtain ⟨b, o, q, k, kc, rfl, hb, hc, hk, hvj⟩ := HV.out.at_ j hlt
      have hc1 := (HW.out.1.cell (p := ⟨b, o + j, none⟩) hb).trans hc
      have hg1 := (HW.out.1.cell (p := ⟨g, 0, none⟩) hgl).trans hg
      have HS : Hid (Calls Tryz.prog 91 #[.slice q k kc, .pointer (some ⟨g, 0, none⟩)] wr fun e w' => e = .returned (.bool (decide (MS.getD j [] = V))) ∧ Below wr.heap.size wr w') :=
        hasf_at (hvj.all HW.out.1) (HP.out.all HW.out.1) (by rw [← hvj.len]; exact hd j hlt) hg1
      have HE : Hid (decide (MS.getD j [] = V) = true → V ∈ MS) := fun e => by
        have e := of_decide_eq_true e
        rw [← e]
        have hj' : j < MS.length := by rw [HL.out]; exact hlt
        have : MS.getD j [] = MS[j] := by simp [List.getD, hj']
        rw [this]; exact List.getElem_mem _
      have HE2 : Hid (decide (MS.getD j [] = V) = false → MS.getD j [] ≠ V) := fun e => of_decide_eq_false e
      clear hb hc hvj hg1
      have HX : Hid (MS.getD j [] = MS.getD j []) := rfl
      cases hq : decide (MS.getD j [] = V) with
      | true =>
        have HM : Hid (V ∈ MS) := HE.out hq
        rw [hq] at HS
        clear HE HE2 hq HX
        go_wp2_with fail
        refine HS.out.mono ?_
        rintro e w2 ⟨rfl, hb2⟩
        have HB2 : Hid (Below w.heap.size w w2) := HW.out.1.trans (hb2.mono HW.out.1.size)
        clear hb2 HS HW
        go_wp2_with fail
        go_ret
        exact ⟨_, rfl, by simp [HM.out], by omega, by omega, HB2.out⟩
      | false =>
        have HM : Hid (MS.getD j [] ≠ V) := HE2.out hq
        rw [hq] at HS
        clear HE HE2 hq HX
        go_wp2_with fail
        refine HS.out.mono ?_
        rintro e w2 ⟨rfl, hb2⟩
        have HB2 : Hid (Below w.heap.size w w2 ∧ ∀ i, i < j + 1 → MS.getD i [] ≠ V) := ⟨HW.out.1.trans (hb2.mono HW.out.1.size), fun i hi => by
          rcases Nat.lt_or_ge i j with q | q
          · exact HW.out.2 i q
          · have : i = j := by omega
            subst this
            exact HM.out⟩
        clear hb2 HS HW HM
        go_wp2_with fail
        exact ⟨⟨j + 1, hlt, rfl, HB2⟩, by simp [RowKit.intOf]; omega⟩
    · obtain rfl : j = m := by omega
      go_wp2_with fail
      go_ret
      refine ⟨_, rfl, ?_, by omega, by omega, HW.out.1⟩
      have hn : V ∉ MS := fun hmem => by
        obtain ⟨i, hi, e⟩ := mem_take_getD hmem
        exact HW.out.2 i (by rw [← HL.out]; exact hi) e
      simp [hn]
set_option maxRecDepth 100000 in
set_option maxHeartbeats 1000000 in
theorem contains_at {w : World} {a p : Option Addr} {m c n cc g : Nat} {MS : List (List Int)} {V : List Int} (h : VecsAt w a m c MS) (hv : VecAt w p n cc V) (hg : w.cell? ⟨g, 0, none⟩ = some (.slice p n cc)) (hm : m ≤ 1000000) (hd : ∀ i, i < m → (MS.getD i []).length ≤ 1000000000) :
    Calls Tryz.prog 90 #[.slice a m c, .func (.func 91) #[] #[.pointer (some ⟨g, 0, none⟩)]] w fun e w' => e = .returned (.bool (decide (V ∈ MS))) ∧ Below w.heap.size w w' := by
  have HC : Hid (Calls Tryz.prog 143 #[.slice a m c, .func (.func 91) #[] #[.pointer (some ⟨g, 0, none⟩)]] w fun e w' => ∃ k : Int, e = .returned (.int .i64 k) ∧ decide (0 ≤ k) = decide (V ∈ MS) ∧ -1 ≤ k ∧ k < 1000000 ∧ Below w.heap.size w w') := idx_at h hv hg hm hd
  generalize decide (V ∈ MS) = q at *
  clear h hv
  go_enter Tryz.func90, Tryz.ntmps90
  go_wp2_with fail
  refine HC.out.mono ?_
  rintro e w' ⟨k, rfl, hk, hk1, hk2, hb⟩
  have HB : Hid (Below w.heap.size w w') := hb
  have HK : Hid (decide (0 ≤ k) = q) := hk
  clear hb hk HC
  go_wp2_with fail
  go_ret
  exact ⟨by simpa using HK.out, HB.out⟩
set_option maxRecDepth 100000 in
set_option maxHeartbeats 1000000 in
theorem has_at {w : World} {a p : Option Addr} {m c n cc : Nat} {MS : List (List Int)} {V : List Int} (h : VecsAt w a m c MS) (hv : VecAt w p n cc V) (hm : m ≤ 1000000) (hd : ∀ i, i < m → (MS.getD i []).length ≤ 1000000000) :
    Calls Tryz.prog 66 #[.slice a m c, .slice p n cc] w fun e w' => e = .returned (.bool (decide (V ∈ MS))) ∧ Below w.heap.size w w' := by
  have hA : Below w.heap.size w (w.alloc (.cells #[.slice p n cc] 23)) := (Below.refl _ _).alloc (Nat.le_refl _) _
  have HC : Hid (Calls Tryz.prog 90 #[.slice a m c, .func (.func 91) #[] #[.pointer (some ⟨w.heap.size, 0, none⟩)]] (w.alloc (.cells #[.slice p n cc] 23)) fun e w' => e = .returned (.bool (decide (V ∈ MS))) ∧ Below (w.alloc (.cells #[.slice p n cc] 23)).heap.size (w.alloc (.cells #[.slice p n cc] 23)) w') :=
    contains_at (h.all hA) (hv.all hA) (by simp) hm hd
  have HA : Hid (Below w.heap.size w (w.alloc (.cells #[.slice p n cc] 23))) := hA
  generalize decide (V ∈ MS) = q at *
  clear h hv hA
  go_enter Tryz.func66, Tryz.ntmps66
  go_wp2_with fail
  refine HC.out.mono ?_
  rintro e w' ⟨rfl, hb⟩
  have HB : Hid (Below w.heap.size w w') := HA.out.trans (hb.mono HA.out.size)
  clear hb HC HA
  go_wp2_with fail
  go_ret
  exact ⟨rfl, HB.out⟩
end Go.Proofs.YteaacodloabdcaaGreatDoor

namespace Go.Proofs.YteaacodloabdcaaGreatDoor
open Go.RowKit Go.Maps

/-- A vector's head: its block and its room. -/
abbrev slC (d : Nat) (g : Nat × Nat) : Value := .slice (some ⟨g.1, 0, none⟩) d g.2
/-- Vectors that a call has made, all of one length, in a row that it has made. -/
structure MidsR (lo : Nat) (w : World) (d : Nat) (u : Value) (gs : List (Nat × Nat)) (MS : List (List Int)) : Prop where
  row : w.ownsRow lo 23 1 u gs.length (gs.map (slC d))
  len : MS.length = gs.length
  vec : ∀ i, i < gs.length → VecR w lo (slC d (gs.getD i (0, 0))) (MS.getD i [])
  ne : ∀ i, i < gs.length → u.ownBlock ≠ some (gs.getD i (0, 0)).1
  inj : ∀ i j, i < j → j < gs.length → (gs.getD i (0, 0)).1 ≠ (gs.getD j (0, 0)).1
  fit : FitL d 1048576 MS
theorem VecR.lo {w : World} {lo : Nat} {d : Nat} {g : Nat × Nat} {A : List Int} (h : VecR w lo (slC d g) A) : lo ≤ g.1 ∧ g.1 < w.heap.size ∧ A.length = d := by
  rcases h.2 with ⟨e, _⟩ | ⟨gg, cap, cur, hv, hb, hH, rest⟩
  · cases e
  · injection hv with hv e2 _
    injection hv with hv
    injection hv with hv
    subst hv
    exact ⟨hb, (Array.getElem?_eq_some_iff.1 hH).1, e2.symm⟩
theorem VecR.far2 {S : Nat → Prop} {w w' : World} {lo : Nat} {d : Nat} {g : Nat × Nat} {A : List Int} (h : VecR w lo (slC d g) A) (hk : Keeps S w w') (hs : ¬ S g.1) : VecR w' lo (slC d g) A := by
  refine ⟨h.1, ?_⟩
  rcases h.2 with q | ⟨gg, cap, cur, hv, hb, hH, rest⟩
  · exact .inl q
  · have e : gg = g.1 := by
      injection hv with hv _ _
      injection hv with hv
      injection hv with hv
      exact hv.symm
    subst e
    exact .inr ⟨_, cap, cur, hv, hb, (hk.block _ (Array.getElem?_eq_some_iff.1 hH).1 hs).trans hH, rest⟩
theorem FitL.i32 {d : Nat} {MS : List (List Int)} (h : FitL d 1048576 MS) (i : Nat) : ∀ x ∈ MS.getD i [], -2147483648 ≤ x ∧ x ≤ 2147483647 := by
  intro x hx
  rcases Nat.lt_or_ge i MS.length with hi | hi
  · have := (h.getD i hi).2 x hx; omega
  · rw [show MS.getD i [] = [] by simp [List.getD, List.getElem?_eq_none hi]] at hx; cases hx
theorem MidsR.toAt {lo : Nat} {w : World} {d : Nat} {u : Value} {gs : List (Nat × Nat)} {MS : List (List Int)} (h : MidsR lo w d u gs MS) (hd : d ≤ 1000) : ∃ p c, u = .slice p gs.length c ∧ VecsAt w p gs.length c MS := by
  rcases h.row.2 with ⟨e, h0⟩ | ⟨g, cap, cur, e, hg, hH, hc, _, _, htk⟩
  · exact ⟨none, 0, by rw [e, h0], h.len, by omega, fun i hi => by omega⟩
  · refine ⟨_, cap, e, h.len, hc, fun i hi => ?_⟩
    have hv := h.vec i hi
    obtain ⟨p, c, e1, h1, _⟩ := hv.toAt (h.fit.i32 i)
    have hl := hv.lo.2.2
    rw [hl] at h1 e1
    injection e1 with e1 _ e2
    rw [← e1, ← e2] at h1
    refine ⟨g, 0, some ⟨(gs.getD i (0, 0)).1, 0, Option.none⟩, d, (gs.getD i (0, 0)).2, rfl, (Array.getElem?_eq_some_iff.1 hH).1, ?_, (by omega), h1⟩
    rw [Nat.zero_add, cell_of_row _ _ i _ 23 (0, 0) hH]
    have : (cur.toList.take (gs.length * 1))[i]? = some (slC d (gs.getD i (0, 0))) := by
      rw [htk, List.getElem?_map, List.getElem?_eq_getElem hi]; simp [List.getD, hi]
    rw [List.getElem?_take, if_pos (by omega)] at this
    simpa using this
theorem MidsR.keep {S : Nat → Prop} {lo : Nat} {w w' : World} {d : Nat} {u : Value} {gs : List (Nat × Nat)} {MS : List (List Int)} (h : MidsR lo w d u gs MS) (hk : Keeps S w w') (s1 : ∀ i, u.ownBlock = some i → ¬ S i) (s2 : ∀ i, i < gs.length → ¬ S (gs.getD i (0, 0)).1) : MidsR lo w' d u gs MS := {
  row := by
    refine ⟨h.row.1, ?_⟩
    rcases h.row.2 with q | ⟨g, cap, cur, hv, hb, hg, rest⟩
    · exact .inl q
    · exact .inr ⟨g, cap, cur, hv, hb, (hk.block g (Array.getElem?_eq_some_iff.1 hg).1 (s1 g (by rw [hv]; rfl))).trans hg, rest⟩
  len := h.len
  vec := fun i hi => (h.vec i hi).far2 hk (s2 i hi)
  ne := h.ne
  inj := h.inj
  fit := h.fit }
theorem MidsR.below {lo : Nat} {w w' : World} {d : Nat} {u : Value} {gs : List (Nat × Nat)} {MS : List (List Int)} (h : MidsR lo w d u gs MS) (hb : Below w.heap.size w w') : MidsR lo w' d u gs MS :=
  h.keep (Keeps.of_below (S := fun _ => False) hb) (fun _ _ e => e) (fun _ _ e => e)
theorem MidsR.none (lo : Nat) (w : World) (d : Nat) : MidsR lo w d (.slice none 0 0) [] [] :=
  ⟨World.ownsRow_nil _ _ _ _, rfl, fun _ h => absurd h (Nat.not_lt_zero _), fun _ h => absurd h (Nat.not_lt_zero _), fun _ _ _ h => absurd h (Nat.not_lt_zero _), fun _ h => absurd h List.not_mem_nil⟩
theorem getD_snoc {α : Type} (l : List α) (x y : α) : (l ++ [x]).getD l.length y = x := by simp [List.getD]
theorem getD_snoc_lt {α : Type} (l : List α) (x y : α) {i : Nat} (h : i < l.length) : (l ++ [x]).getD i y = l.getD i y := by simp [List.getD, List.getElem?_append_left h]
theorem MidsR.grow {lo : Nat} {wr W w5 : World} {d g5 c5 : Nat} {u : Value} {gs : List (Nat × Nat)} {MS : List (List Int)} {g : Nat × Nat} {V : List Int} (h : MidsR lo wr d u gs MS) (hb : Below wr.heap.size wr W) (hg : wr.heap.size ≤ g.1) (hR : VecR W wr.heap.size (slC d g) V)
    (hV : ∀ x ∈ V, -1048576 ≤ x ∧ x ≤ 1048576) (hlo : lo ≤ wr.heap.size) (hgrow : W.grownBy w5 u.ownBlock)
    (hown : w5.ownsRow lo 23 1 (.slice (some ⟨g5, 0, Option.none⟩) (gs.length + 1) c5) (gs.length + 1) (gs.map (slC d) ++ [slC d g])) (hat : u.ownBlock = some g5 ∨ W.heap.size ≤ g5) : MidsR lo w5 d (.slice (some ⟨g5, 0, Option.none⟩) (gs.length + 1) c5) (gs ++ [g]) (MS ++ [V]) := by
  have hk : Keeps (fun i => u.ownBlock = some i) W w5 := (Keeps.of_below (Below.refl _ _)).grown hgrow (fun k e => e)
  have hul : ∀ k, u.ownBlock = some k → k < wr.heap.size := fun k e => ownsRow_lt h.row k e
  have hlen := h.len
  have hsz := hb.size
  refine ⟨?_, ?_, ?_, ?_, ?_, ?_⟩
  · rw [List.length_append, List.map_append]
    exact hown
  · rw [List.length_append, List.length_append, hlen]; rfl
  · intro i hi
    rw [List.length_append] at hi
    simp only [List.length_cons, List.length_nil] at hi
    by_cases e : i = gs.length
    · subst e
      rw [getD_snoc, ← hlen, getD_snoc]
      exact (hR.far2 hk (fun e => by have := hul _ e; omega)).weaken hlo
    · rw [getD_snoc_lt _ _ _ (by omega), getD_snoc_lt _ _ _ (by omega)]
      exact ((h.vec i (by omega)).below hb).far2 hk (h.ne i (by omega))
  · intro i hi e
    have e : g5 = ((gs ++ [g]).getD i (0, 0)).1 := by injection e
    rw [List.length_append] at hi
    simp only [List.length_cons, List.length_nil] at hi
    have hgW := hR.lo.2.1
    by_cases ei : i = gs.length
    · subst ei
      rw [getD_snoc] at e
      rcases hat with q | q
      · have := hul g5 q; omega
      · omega
    · rw [getD_snoc_lt _ _ _ (by omega)] at e
      rcases hat with q | q
      · exact h.ne i (by omega) (by rw [q, e])
      · have h1 := (h.vec i (by omega)).lo.2.1
        omega
  · intro i j hij hj
    rw [List.length_append] at hj
    simp only [List.length_cons, List.length_nil] at hj
    rw [getD_snoc_lt _ _ _ (show i < gs.length by omega)]
    by_cases ej : j = gs.length
    · subst ej
      rw [getD_snoc]
      have := (h.vec i (by omega)).lo.2.1
      omega
    · rw [getD_snoc_lt _ _ _ (by omega)]
      exact h.inj i j hij (by omega)
  · intro v hv
    rcases List.mem_append.1 hv with q | q
    · exact h.fit v q
    · simp at q
      subst q
      exact ⟨hR.lo.2.2, hV⟩
set_option maxRecDepth 100000 in
set_option maxHeartbeats 1000000 in
theorem first_at {w : World} {a : Option Addr} {m c d : Nat} {VS : List (List Int)} (h : VecsAt w a m c VS) (hf : FitL d 1048576 VS) (hd : 1 ≤ d) (hd2 : d ≤ 1000) (hm : m ≤ 1000) (n : Nat) (hn : n ≤ 16) :
    Calls Tryz.prog 44 #[.int .i64 n, .slice a m c] w fun e w' => ∃ u gs, e = .returned u ∧ MidsR w.heap.size w' d u gs (firstL n VS) ∧ Below w.heap.size w w' := by
  have HV : Hid (VecsAt w a m c VS) := h
  have HF : Hid (FitL d 1048576 VS) := hf
  have HL : Hid (VS.length = m) := h.len
  obtain ⟨i0, hi, hz0, hz1, hz2⟩ := info_parts infoVec
  clear h hf
  go_enter Tryz.func44, Tryz.ntmps44
  go_wp2_with fail
  go_loopw [5, 10] (fun s5 s10 wr => ∃ j : Nat, j ≤ m ∧ s10 = .int .i64 j ∧ Hid (∃ gs, MidsR w.heap.size wr d s5 gs (firstL n (VS.take j)) ∧ Below w.heap.size w wr)) (fun _ s10 _ => m - (RowKit.intOf s10).toNat)
  case atStart => exact ⟨0, Nat.zero_le _, rfl, [], MidsR.none _ _ _, Below.refl _ _⟩
  case round =>
    obtain ⟨j, hj, rfl, HI⟩ := hrel
    obtain ⟨gs, hM, hU⟩ := HI.out
    obtain ⟨p5, c5, rfl, hat⟩ := hM.toAt hd2
    have HM : Hid (MidsR w.heap.size wr d (.slice p5 gs.length c5) gs (firstL n (VS.take j))) := hM
    have HU : Hid (Below w.heap.size w wr) := hU
    have HAt : Hid (VecsAt wr p5 gs.length c5 (firstL n (VS.take j))) := hat
    have HN : Hid ((firstL n (VS.take j)).length = gs.length ∧ gs.length ≤ n ∧ gs.length ≤ 16) := by
      have h1 := (firstL_len n (VS.take j)).1
      have h2 := hM.len
      exact ⟨h2, by omega, by omega⟩
    clear HI hM hU hat
    by_cases hlt : j < m
    · obtain ⟨b, o, q, k, kc, rfl, hb, hc, hk, hvj⟩ := HV.out.at_ j hlt
      have hc1 := (HU.out.cell (p := ⟨b, o + j, none⟩) hb).trans hc
      have HVJ : Hid (VecAt wr q k kc (VS.getD j [])) := hvj.all HU.out
      have HTk : Hid (VS.take (j + 1) = VS.take j ++ [VS.getD j []]) := by
        have hj' : j < VS.length := by rw [HL.out]; exact hlt
        show _ = _
        rw [List.take_succ_eq_append_getElem hj']
        simp [List.getD, hj']
      have hFj := HF.out.getD j (by rw [HL.out]; exact hlt)
      have HFj : Hid ((VS.getD j []).length = d ∧ ∀ x ∈ VS.getD j [], -1048576 ≤ x ∧ x ≤ 1048576) := hFj
      have hkd : k = d := by rw [← HVJ.out.len]; exact HFj.out.1
      subst hkd
      clear hb hc hvj hFj
      by_cases hln : gs.length = n
      · have HE : Hid (firstL n VS = firstL n (VS.take j)) := by
          have := firstL_full n (VS.take j) (VS.drop j) (by rw [HN.out.1]; exact hln)
          rwa [List.take_append_drop] at this
        rw [← HE.out] at HM
        have hln' : (gs.length : Int) = (n : Int) := by omega
        clear HN HTk hln HAt
        go_wp2_with fail
        go_ret
        exact ⟨_, _, rfl, HM.out, HU.out⟩
      · have hln' : ¬ (gs.length : Int) = (n : Int) := by omega
        have HC : Hid (Calls Tryz.prog 66 #[.slice p5 gs.length c5, .slice q k kc] wr fun e w' => e = .returned (.bool (decide (VS.getD j [] ∈ firstL n (VS.take j)))) ∧ Below wr.heap.size wr w') :=
          has_at HAt.out HVJ.out (by have := HN.out; omega) (fun i hi => by
            have h1 := HN.out.1
            have := (HM.out.fit.getD i (by omega)).1
            omega)
        have HS : Hid (firstL n (VS.take (j + 1)) = if VS.getD j [] ∈ firstL n (VS.take j) then firstL n (VS.take j) else firstL n (VS.take j) ++ [VS.getD j []]) := by
          show _ = _
          rw [HTk.out, firstL_snoc]
          have h1 := HN.out.1
          by_cases hm' : VS.getD j [] ∈ firstL n (VS.take j)
          · rw [if_pos (Or.inr hm'), if_pos hm']
          · rw [if_neg (fun e => by rcases e with e | e; · omega
                                    · exact hm' e), if_neg hm']
        by_cases hmem : VS.getD j [] ∈ firstL n (VS.take j)
        · have HS2 : Hid (firstL n (VS.take (j + 1)) = firstL n (VS.take j)) := by have := HS.out; rwa [if_pos hmem] at this
          rw [show decide (VS.getD j [] ∈ firstL n (VS.take j)) = true from decide_eq_true hmem] at HC
          have HA2 : Hid (firstL n (VS.take (j + 1)) = firstL n (VS.take j)) := HS2.out
          clear HS hmem HAt HVJ HS2
          go_wp2_with fail
          refine HC.out.mono ?_
          rintro e w2 ⟨rfl, hb2⟩
          have HR : Hid (∃ gs', MidsR w.heap.size w2 k (.slice p5 gs.length c5) gs' (firstL n (VS.take (j + 1))) ∧ Below w.heap.size w w2) := by
            show ∃ gs', _
            rw [HA2.out]
            exact ⟨gs, HM.out.below hb2, HU.out.trans (hb2.mono HU.out.size)⟩
          clear hb2 HC HA2 HM HU HN
          go_wp2_with fail
          exact ⟨⟨j + 1, hlt, rfl, HR⟩, by simp [RowKit.intOf]; omega⟩
        · have HA2 : Hid (firstL n (VS.take (j + 1)) = firstL n (VS.take j) ++ [VS.getD j []]) := by have := HS.out; rwa [if_neg hmem] at this
          rw [show decide (VS.getD j [] ∈ firstL n (VS.take j)) = false from decide_eq_false hmem] at HC
          clear HS hmem HAt
          go_wp2_with fail
          refine HC.out.mono ?_
          rintro e w2 ⟨rfl, hb2⟩
          have HB2 : Hid (Below wr.heap.size wr w2) := hb2
          have HV2 : Hid (VecAt w2 q k kc (VS.getD j [])) := HVJ.out.all hb2
          clear hb2 HC HVJ
          go_wp2_with fail
          refine (copy_at HV2.out (by omega)).mono ?_
          rintro e w3 ⟨v3, rfl, hR3, hb3⟩
          obtain ⟨g3, c3, rfl⟩ : ∃ g3 c3, v3 = slC k (g3, c3) := by
            rcases hR3.2 with ⟨_, e0⟩ | ⟨g, cap, cur, e0, _⟩
            · have := HFj.out.1; omega
            · exact ⟨g, cap, by rw [e0, HFj.out.1]⟩
          have hA : Below w3.heap.size w3 (w3.alloc (.cells #[slC k (g3, c3)] 23)) := (Below.refl _ _).alloc (Nat.le_refl _) _
          have hb4 := HB2.out.trans ((hb3.trans (hA.mono hb3.size)).mono HB2.out.size)
          have HbW : Hid (Below wr.heap.size wr (w3.alloc (.cells #[slC k (g3, c3)] 23))) := hb4
          have HRW : Hid (VecR (w3.alloc (.cells #[slC k (g3, c3)] 23)) wr.heap.size (slC k (g3, c3)) (VS.getD j [])) := (hR3.below hA).weaken HB2.out.size
          have hSz : (w3.alloc (.cells #[slC k (g3, c3)] 23)).heap.size = w3.heap.size + 1 := by simp
          have HOw : Hid ((w3.alloc (.cells #[slC k (g3, c3)] 23)).ownsRow w.heap.size 23 1 (.slice p5 gs.length c5) gs.length (gs.map (slC k))) := ownsRow_stay HM.out.row (Keeps.of_below (S := fun _ => False) HbW.out) (fun _ _ e => e)
          have HgW : Hid (wr.heap.size ≤ g3) := HRW.out.lo.1
          have hgl2 : gs.length ≤ 16 := HN.out.2.2
          have hq2 : gs.length + 1 ≤ maxLen := by unfold maxLen; omega
          have hq3 : (gs.length + 1) * 24 ≤ 140737488355328 := by omega
          have hq4 : w.heap.size ≤ (w3.alloc (.cells #[slC k (g3, c3)] 23)).heap.size := by
            have h1 := HU.out.size
            have h2 := HbW.out.size
            omega
          clear hA hR3 hb3 hb4 hgl2 HB2 HV2
          unfold slC at *
          go_wp2_with (at_builtin; refine wpList_append_lies _ rfl _ _ 32 rfl w.heap.size 23 i0 (.slice none 0 0) 1 24 Tryz.underlying32 hi hz0 hz1 hz2 rfl (by decide) (.slice p5 gs.length c5) gs.length (gs.map (slC k)) rfl HOw.out ⟨w3.heap.size, 0, none⟩ 1 1 [slC k (g3, c3)] rfl rfl (one_newW _ _ _ _) (fun u hu => by cases hu with | head => rfl | tail _ h => cases h) (by decide) hq2 hq3 hq4 (w3.heap.size + 1) hSz ?_)
          intro g5 c6 w5 hown5 hgrow5 hat5 hlt5
          have HN5 : Hid (∃ gs', MidsR w.heap.size w5 k (.slice (some ⟨g5, 0, none⟩) (gs.length + 1) c6) gs' (firstL n (VS.take (j + 1))) ∧ Below w.heap.size w w5) := by
            show ∃ gs', _
            rw [HA2.out]
            refine ⟨gs ++ [(g3, c3)], HM.out.grow HbW.out HgW.out HRW.out HFj.out.2 HU.out.size hgrow5 hown5 (hat5.elim Or.inl (fun q => Or.inr (by rw [hSz, q]; exact Nat.le_refl _))), ?_⟩
            exact (HU.out.trans (HbW.out.mono HU.out.size)).grown hgrow5 hq4 (fun k hk => ownsRow_low HM.out.row k hk)
          clear hown5 hgrow5 hat5 hlt5 HbW HRW hSz HgW HOw hq2 hq3 hq4 HM HU HN HA2
          go_wp2_with fail
          exact ⟨⟨j + 1, hlt, rfl, HN5⟩, by simp [RowKit.intOf]; omega⟩
    · obtain rfl : j = m := by omega
      have HE : Hid (VS.take j = VS) := by
        have := HL.out
        show _ = _
        rw [← this, List.take_length]
      rw [HE.out] at HM
      go_wp2_with fail
      go_ret
      exact ⟨_, _, rfl, HM.out, HU.out⟩
end Go.Proofs.YteaacodloabdcaaGreatDoor
