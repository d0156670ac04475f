import Derived.Test.YteaacodloabdcaaGreatDoorSlC
import Derived.Test.YteaacodloabdcaaGreatDoorLeastA
import Derived.Laws.ResultCell
import Derived.Deep.RegionHeld3
namespace Go.Proofs.YteaacodloabdcaaGreatDoor
open Go.RowKit

theorem load59 (r : Nat) (u v : Value) (w : World) (h0 : w.cell? ⟨r, 0, none⟩ = some u) (h1 : w.cell? ⟨r, 1, none⟩ = some v) : (loadVar 172 ⟨r, 0, none⟩).run Tryz.prog w = .ok (.agg #[u, v]) w := by
  go_simp
theorem res_cell {fn : Func} {p q : Tmp} (h : fn.results = #[.cell p 172, .tmp q]) (tmps : Array Value) (w : World) (r : Nat) (u v z : Value) (hp : tmps.getD p undef = .pointer (some ⟨r, 0, none⟩)) (hq : tmps.getD q undef = z) (h0 : w.cell? ⟨r, 0, none⟩ = some u) (h1 : w.cell? ⟨r, 1, none⟩ = some v) :
    (results fn tmps).run Tryz.prog w = .ok (.tuple #[.agg #[u, v], z]) w := by
  rw [results_cell_tmp h, hp, hq]
  have ha : (asAddr (.pointer (some ⟨r, 0, none⟩))).run Tryz.prog w = .ok ⟨r, 0, none⟩ w := rfl
  rw [ha]
  simp only [Result.andThen]
  rw [load59 r u v w h0 h1]
theorem info2 : (Tryz.prog.info? 2).map (fun i => (i.zero, i.size, i.bytes)) = some (some (.int .i64 0), 1, 8) := by kernel_rfl
theorem mkI (m : Nat) (h : m ≤ 4) (w : World) : (Instr.makeSlice 98 (.int .i64 m) (.int .i64 m)).run Tryz.prog w = .ok (.slice (some ⟨w.heap.size, 0, none⟩) m m) (w.alloc (.cells (Array.replicate m (.int .i64 0)) 2)) := by
  have hx := info2
  cases hq : Tryz.prog.info? 2 with
  | none => rw [hq] at hx; cases hx
  | some i =>
    rw [hq] at hx
    simp only [Option.map_some, Option.some.injEq, Prod.mk.injEq] at hx
    obtain ⟨h1, h2, h3⟩ := hx
    rw [run_make w 98 2 i _ Tryz.underlying98 hq h1 .i64 .i64 m m (by omega) (by omega) (by rw [h3]; omega) (by omega)]
    have e : madeCells (Value.int .i64 0).cells ((m : Int).toNat * i.size) = Array.replicate m (.int .i64 0) := by
      show madeCells (Array.replicate 1 (.int .i64 0)) _ = _
      rw [madeCells_rep _ _ _ (by omega), h2]
      simp
    rw [e]
    simp
/-- The reader behind some numbers. -/
def rdSt : Nat → List UInt8 → Int → List UInt8 × Int
  | 0, s, e => (s, e)
  | k + 1, s, e => rdSt k (rdInt s e).2.1 (rdInt s e).2.2
theorem rdSt_snoc : ∀ (k : Nat) (s : List UInt8) (e : Int), rdSt (k + 1) s e = ((rdInt (rdSt k s e).1 (rdSt k s e).2).2.1, (rdInt (rdSt k s e).1 (rdSt k s e).2).2.2)
  | 0, _, _ => rfl
  | k + 1, s, e => by rw [rdSt, rdSt_snoc k]; rfl
theorem rdInts_err : ∀ (k : Nat) (s : List UInt8) (e : Int), (rdInts k s e).2 = (rdSt k s e).2
  | 0, _, _ => rfl
  | k + 1, s, e => by simp only [rdInts, rdSt]; exact rdInts_err k _ _
theorem rdInts_snoc : ∀ (k : Nat) (s : List UInt8) (e : Int), (rdInts (k + 1) s e).1 = (rdInts k s e).1 ++ [(rdInt (rdSt k s e).1 (rdSt k s e).2).1]
  | 0, _, _ => rfl
  | k + 1, s, e => by
    have := rdInts_snoc k (rdInt s e).2.1 (rdInt s e).2.2
    rw [rdInts]
    simp only
    rw [this]
    rfl
theorem RdAt.keep {S : Nat → Prop} {w w' : World} {rb : Nat} {s : List UInt8} {a : Option Addr} {c : Nat} {err : Int} (h : RdAt w rb s a c err) (hk : Keeps S w w') (h1 : ¬ S rb) (h2 : ∀ g o, a = some ⟨g, o, none⟩ → s ≠ [] → ¬ S g) : RdAt w' rb s a c err where
  c0 := (hk.cell (p := ⟨rb, 0, none⟩) h.lt h1).trans h.c0
  c1 := (hk.cell (p := ⟨rb, 1, none⟩) h.lt h1).trans h.c1
  f := fun o => (hk.frozen (p := ⟨rb, o, none⟩) h.lt h1).trans (h.f o)
  sh := by
    rcases h.sh with e | ⟨g, o, e, hne, hr⟩
    · exact Or.inl e
    · refine Or.inr ⟨g, o, e, hne, fun j v hv => ?_⟩
      have hc := hr j v hv
      have hs : s ≠ [] := by rintro rfl; simp [bytesV] at hv
      exact (hk.cell (p := ⟨g, o + j, none⟩) (World.block_lt_of_cell? w _ hc) (h2 g o e hs)).trans hc
  hc := h.hc
  hl := h.hl
/-- A block of numbers is none of bytes. -/
theorem RdAt.other {w : World} {rb nb : Nat} {s : List UInt8} {a : Option Addr} {c : Nat} {err : Int} (h : RdAt w rb s a c err) {A : List Int} (hn : w.heap[nb]? = some (.cells (A.map (Value.int .i64)).toArray 2)) : ∀ g o, a = some ⟨g, o, none⟩ → s ≠ [] → ¬ g = nb := by
  rintro g o rfl hs rfl
  rcases h.sh with ⟨e, _⟩ | ⟨g', o', e, _, hr⟩
  · cases e
  · cases e
    obtain ⟨b, r, rfl⟩ : ∃ b r, s = b :: r := by cases s; exact absurd rfl hs; exact ⟨_, _, rfl⟩
    have h1 := hr 0 (bV b) rfl
    rw [cell_of_row _ _ (o + 0) _ 2 (0, 0) hn] at h1
    have h2 : (A.map (Value.int .i64))[o + 0]? = some (bV b) := by simpa using h1
    rw [List.getElem?_map] at h2
    cases hx : A[o + 0]? with
    | none => rw [hx] at h2; cases h2
    | some x => rw [hx] at h2; simp [bV] at h2
/-- The loop's. -/
structure PI (w wr : World) (rb nb m j : Nat) (r : List UInt8) (e : Int) : Prop where
  rd : ∃ a c, RdAt wr rb (rdSt j r e).1 a c (rdSt j r e).2
  row : wr.heap[nb]? = some (.cells (((rdInts j r e).1 ++ List.replicate (m - j) 0).map (Value.int .i64)).toArray 2)
  out : wr.heap[w.heap.size]? = some (.cells #[.int .i64 0, .slice none 0 0] 172)
  bel : Below w.heap.size w wr
theorem row_cell {w : World} {nb : Nat} {A : List Int} (h : w.heap[nb]? = some (.cells (A.map (Value.int .i64)).toArray 2)) (j : Nat) (hj : j < A.length) : w.cell? ⟨nb, j, none⟩ = some (.int .i64 (A.getD j 0)) ∧ w.frozen? ⟨nb, j, none⟩ = false := by
  constructor
  · rw [cell_of_row _ _ j _ 2 (0, 0) h]
    simp [List.getElem?_map, List.getElem?_eq_getElem hj, List.getD]
  · unfold World.frozen?; rw [h]; simp
theorem PI.step {w wr w4 : World} {rb nb m j : Nat} {r : List UInt8} {e : Int} {a4 : Option Addr} {c4 : Nat} (hI : PI w wr rb nb m j r e) (hj : j < m) (hlt : rb < wr.heap.size) (hne : rb ≠ nb ∧ rb ≠ w.heap.size ∧ w.heap.size ≠ nb ∧ w.heap.size ≤ nb ∧ w.heap.size < rb)
    (hR : RdAt w4 rb (rdInt (rdSt j r e).1 (rdSt j r e).2).2.1 a4 c4 (rdInt (rdSt j r e).1 (rdSt j r e).2).2.2) (hk : Keeps (fun i => i = rb) wr w4) :
    (w4.cell? ⟨nb, j, none⟩ = some (.int .i64 0) ∧ w4.frozen? ⟨nb, j, none⟩ = false) ∧ PI w (w4.setCell ⟨nb, j, none⟩ (.int .i64 (rdInt (rdSt j r e).1 (rdSt j r e).2).1)) rb nb m (j + 1) r e := by
  obtain ⟨n1, n2, n3, n4, n5⟩ := hne
  have hnb : nb < wr.heap.size := (Array.getElem?_eq_some_iff.1 hI.row).1
  have hws : w.heap.size < wr.heap.size := (Array.getElem?_eq_some_iff.1 hI.out).1
  have row4 := (hk.block nb hnb (fun x => n1 x.symm)).trans hI.row
  have out4 := (hk.block w.heap.size hws (fun x => n2 x.symm)).trans hI.out
  have hlen : (rdInts j r e).1.length = j := rdInts_len j r e
  have hrc := row_cell row4 j (by rw [List.length_append, List.length_replicate, hlen]; omega)
  have hz : ((rdInts j r e).1 ++ List.replicate (m - j) 0).getD j 0 = 0 := by
    simp [List.getD, List.getElem?_append_right (Nat.le_of_eq hlen), hlen, List.getElem?_replicate]
    split <;> rfl
  rw [hz] at hrc
  have hk2 : Keeps (fun i => i = nb) w4 (w4.setCell ⟨nb, j, none⟩ (.int .i64 (rdInt (rdSt j r e).1 (rdSt j r e).2).1)) := (Keeps.refl (fun i => i = nb) w4).setCell (p := ⟨nb, j, none⟩) rfl _
  have hs4 := hk.size
  refine ⟨hrc, ⟨⟨a4, c4, ?_⟩, ?_, ?_, ?_⟩⟩
  · rw [rdSt_snoc]
    exact hR.keep hk2 n1 (hR.other row4)
  · rw [setCell_eq_setRow _ _ _ _ _ _ _ row4, setRow_heap _ _ _ _ _ _ row4, rdInts_snoc]
    congr 2
    have hm : m - j = (m - (j + 1)) + 1 := by omega
    rw [hm, List.replicate_succ]
    simp only [List.map_append, List.map_cons, List.append_assoc, List.cons_append, List.nil_append]
    apply Array.ext'
    simp [List.set_append_right, hlen]
  · exact (hk2.block _ (by omega) (fun x => n3 x)).trans out4
  · exact hI.bel.trans ((hk.below (by omega) (fun i x => by omega)).trans (hk2.below (by omega) (fun i x => by omega)))
/-- What parse tells. -/
def ParseP (s : List UInt8) (w : World) (e : Ending) (w' : World) : Prop := Below w.heap.size w w' ∧ ∃ t' ka kl kc ok, e = .returned (.tuple #[.agg #[.int .i64 t', .slice ka kl kc], .bool ok]) ∧ (parseOf s = none → ok = false) ∧ (∀ t ns, parseOf s = some (t, ns) → ok = true ∧ t' = t ∧ kl = ns.length ∧ IntsAt w' w'.heap.size ka ns.length ns ∧ ∀ b o, ka = some ⟨b, o, none⟩ → w.heap.size ≤ b)

set_option maxRecDepth 100000 in
set_option maxHeartbeats 1000000 in
theorem parse_at (g o c : Nat) (s : List UInt8) (hl : s.length = 64) (w : World) (hr : w.rangeAt g o (bytesV s)) :
    Calls Tryz.prog 180 #[.slice (some ⟨g, o, none⟩) 64 c] w (ParseP s w) := by
  have hg : g < w.heap.size := World.block_lt_of_cell? w _ (hr 0 (bV (s.getD 0 0)) (by unfold bytesV; rw [List.getElem?_map, List.getElem?_eq_getElem (by omega)]; simp [List.getD, List.getElem?_eq_getElem (show 0 < s.length by omega)]))
  have hn0 := heap_alloc_last w (.cells #[.int .i64 0, .slice none 0 0] 172)
  have hs0 : (w.alloc (.cells #[.int .i64 0, .slice none 0 0] 172)).heap.size = w.heap.size + 1 := by simp
  have hb0 : Below w.heap.size w (w.alloc (.cells #[.int .i64 0, .slice none 0 0] 172)) := (Below.refl _ w).alloc (Nat.le_refl _) _
  go_enter Tryz.func180, Tryz.ntmps180
  go_wp2_with fail
  generalize w.alloc (.cells #[.int .i64 0, .slice none 0 0] 172) = w0 at hn0 hs0 hb0 ⊢
  have hr0 : w0.rangeAt g o (bytesV s) := fun j v hv => (hb0.cell (p := ⟨g, o + j, none⟩) hg).trans (hr j v hv)
  refine (newreader_len g o c 64 s w0 hl (by omega) hr0).mono ?_
  rintro e w1 ⟨rb, a1, c1, rfl, hrb, hR1, hb1⟩
  have hn1 : w1.heap[w.heap.size]? = some (.cells #[.int .i64 0, .slice none 0 0] 172) := (hb1.block _ (by omega)).trans hn0
  have hbw1 : Below w.heap.size w w1 := hb0.trans (hb1.mono (by omega))
  have hs1 := hb1.size
  have hlt1 := hR1.lt
  clear hr0 hb0 hb1 hn0 hr
  obtain ⟨t, r1, e1, q1⟩ : ∃ t r1 e1, rdInt s 0 = (t, r1, e1) := ⟨_, _, _, rfl⟩
  obtain ⟨n, r2, e2, q2⟩ : ∃ n r2 e2, rdInt r1 e1 = (n, r2, e2) := ⟨_, _, _, rfl⟩
  have HP : Hid (parseOf s = (if t < 0 ∨ turns ≤ t ∨ n < 0 ∨ 4 < n then none else if (rdInts n.toNat r2 e2).2 = 0 then some (t, (rdInts n.toNat r2 e2).1) else none)) := by
    show parseOf s = _
    unfold parseOf
    simp only [q1, q2]
  have ft := rdInt_fit s 0
  have fn := rdInt_fit r1 e1
  have k1 := rint_any hR1
  rw [q1] at ft k1
  rw [q2] at fn
  simp only at ft fn k1
  go_wp2_with fail
  refine k1.mono ?_
  rintro e w2 ⟨a2, c2, rfl, hR2, hk2, _⟩
  have hs2 := hk2.size
  have hn2 : w2.heap[w.heap.size]? = some (.cells #[.int .i64 0, .slice none 0 0] 172) := (hk2.block _ (by omega) (by omega)).trans hn1
  have hbw2 : Below w.heap.size w w2 := hbw1.trans (hk2.below (by omega) (fun i e => by omega))
  have k2 := rint_any hR2
  rw [q2] at k2
  simp only at k2
  clear k1 hk2 hR1 hn1 hbw1
  go_wp2_with fail
  refine k2.mono ?_
  rintro e w3 ⟨a3, c3, rfl, hR3, hk3, _⟩
  have hs3 := hk3.size
  have hn3 : w3.heap[w.heap.size]? = some (.cells #[.int .i64 0, .slice none 0 0] 172) := (hk3.block _ (by omega) (by omega)).trans hn2
  have hbw3 : Below w.heap.size w w3 := hbw2.trans (hk3.below (by omega) (fun i e => by omega))
  clear k2 hk3 hR2 hn2 hbw2 q1 q2
  have d0 : w3.cell? ⟨w.heap.size, 0, none⟩ = some (.int .i64 0) := by rw [cell_of_row _ _ 0 _ 172 (0, 0) hn3]; rfl
  have d1 : w3.cell? ⟨w.heap.size, 1, none⟩ = some (.slice none 0 0) := by rw [cell_of_row _ _ 1 _ 172 (0, 0) hn3]; rfl
  have fz : ∀ o, w3.frozen? ⟨w.heap.size, o, none⟩ = false := fun o => by unfold World.frozen?; rw [hn3]; simp
  have fz0 := fz 0
  have fz1 := fz 1
  by_cases hbad : t < 0 ∨ 1099511627776 ≤ t ∨ n < 0 ∨ 4 < n
  · have hnone : Hid (parseOf s = none) := by show parseOf s = none; rw [HP.out]; exact if_pos hbad
    have hdec : (decide (t < 0) || decide (1099511627776 ≤ t) || decide (n < 0) || decide (4 < n)) = true := by
      rcases hbad with h | h | h | h <;> simp [h]
    have hK : Keeps (fun x => x = w.heap.size) w3 ((w3.setCell ⟨w.heap.size, 0, none⟩ (.int .i64 0)).setCell ⟨w.heap.size, 1, none⟩ (.slice none 0 0)) := ((Keeps.refl (fun x => x = w.heap.size) w3).setCell (p := ⟨w.heap.size, 0, none⟩) rfl _).setCell (p := ⟨w.heap.size, 1, none⟩) rfl _
    have hbE : Below w.heap.size w ((w3.setCell ⟨w.heap.size, 0, none⟩ (.int .i64 0)).setCell ⟨w.heap.size, 1, none⟩ (.slice none 0 0)) := hbw3.trans (hK.below (by omega) (fun i e => by omega))
    have x0 : ((w3.setCell ⟨w.heap.size, 0, none⟩ (.int .i64 0)).setCell ⟨w.heap.size, 1, none⟩ (.slice none 0 0)).cell? ⟨w.heap.size, 0, none⟩ = some (.int .i64 0) := by rw [World.cell?_setCell_other _ _ _ _ (by simp)]; exact World.cell?_setCell_same _ _ _ d0
    have x1 : ((w3.setCell ⟨w.heap.size, 0, none⟩ (.int .i64 0)).setCell ⟨w.heap.size, 1, none⟩ (.slice none 0 0)).cell? ⟨w.heap.size, 1, none⟩ = some (.slice none 0 0) := World.cell?_setCell_same _ _ _ ((World.cell?_setCell_other _ _ _ _ (by simp)).trans d1)
    clear HP hbad hK
    go_wp2_with fail
    all_goals refine bodyPost_ret (res_cell (p := 2) (q := 3) rfl _ _ w.heap.size _ _ _ rfl rfl x0 x1) rfl ?_
    all_goals exact ⟨hbE, _, _, _, _, false, rfl, fun _ => rfl, fun t ns e => by rw [hnone.out] at e; cases e⟩
  · have hF : 0 ≤ t ∧ t < 1099511627776 ∧ 0 ≤ n ∧ n ≤ 4 := by omega
    obtain ⟨m, rfl⟩ : ∃ m : Nat, n = (m : Int) := ⟨n.toNat, by omega⟩
    have HP2 : Hid (parseOf s = if (rdInts m r2 e2).2 = 0 then some (t, (rdInts m r2 e2).1) else none) := by
      show parseOf s = _
      rw [HP.out, Int.toNat_natCast]
      exact if_neg hbad
    clear HP hbad
    obtain ⟨f1, f2, _, f4⟩ := hF
    have hmk := fun W => mkI m (by omega) W
    go_wp2_with fail
    clear hmk
    have hI0 : PI w (w3.alloc (.cells (Array.replicate m (.int .i64 0)) 2)) rb w3.heap.size m 0 r2 e2 := by
      refine ⟨⟨a3, c3, hR3.keep (S := fun _ => False) ((Keeps.refl _ w3).alloc _) (fun e => e) (fun _ _ _ _ e => e)⟩, ?_, ?_, hbw3.alloc hbw3.size _⟩
      · rw [heap_alloc_last]
        simp [rdInts]
      · rw [Below.heap_alloc _ _ _ (by omega)]; exact hn3
    have hlt3 := hR3.lt
    clear d0 d1 fz fz0 fz1 hn3 hR3 hbw3
    have hnb : rb ≠ w3.heap.size ∧ rb ≠ w.heap.size ∧ w.heap.size ≠ w3.heap.size ∧ w.heap.size ≤ w3.heap.size := by omega
    generalize hnb0 : w3.heap.size = nb at hI0 hnb ⊢
    clear hnb0
    go_loopw [34] (fun s34 wr => ∃ j : Nat, j ≤ m ∧ s34 = .int .i64 j ∧ PI w wr rb nb m j r2 e2) (fun s34 _ => m - (RowKit.intOf s34).toNat)
    case atStart => exact ⟨0, Nat.zero_le _, rfl, hI0⟩
    case round =>
      obtain ⟨j, hj, rfl, hI⟩ := hrel
      clear hI0
      by_cases hlt : j < m
      · obtain ⟨a4, c4, hR⟩ := hI.rd
        have hltr := hR.lt
        go_wp2_with fail
        refine (rint_any hR).mono ?_
        rintro e w4 ⟨a5, c5, rfl, hR5, hk5, _⟩
        obtain ⟨⟨y0, y1⟩, hI2⟩ := hI.step hlt hltr (by omega) hR5 hk5
        have HI2 : Hid (PI w (w4.setCell ⟨nb, j, none⟩ (.int .i64 (rdInt (rdSt j r2 e2).1 (rdSt j r2 e2).2).1)) rb nb m (j + 1) r2 e2) := hI2
        clear hI2 hR5 hk5 hR hI
        generalize (rdInt (rdSt j r2 e2).1 (rdSt j r2 e2).2).1 = x at HI2 ⊢
        go_wp2_with fail
        go_roundw
        case rel => exact ⟨j + 1, by omega, by go_num, HI2.out⟩
        case measure => simp [RowKit.intOf]; omega
      · have hjm : j = m := by omega
        subst hjm
        obtain ⟨a4, c4, hR⟩ := hI.rd
        have hout := hI.out
        have hrow := hI.row
        have hbel := hI.bel
        have hws : w.heap.size < wr.heap.size := (Array.getElem?_eq_some_iff.1 hout).1
        have hnbs : nb < wr.heap.size := (Array.getElem?_eq_some_iff.1 hrow).1
        have d0 : wr.cell? ⟨w.heap.size, 0, none⟩ = some (.int .i64 0) := by rw [cell_of_row _ _ 0 _ 172 (0, 0) hout]; rfl
        have d1 : wr.cell? ⟨w.heap.size, 1, none⟩ = some (.slice none 0 0) := by rw [cell_of_row _ _ 1 _ 172 (0, 0) hout]; rfl
        have fz : ∀ o, wr.frozen? ⟨w.heap.size, o, none⟩ = false := fun o => by unfold World.frozen?; rw [hout]; simp
        have fz0 := fz 0
        have fz1 := fz 1
        have hlen : (rdInts j r2 e2).1.length = j := rdInts_len j r2 e2
        have hfit := rdInts_fit j r2 e2
        rw [Nat.sub_self, List.replicate_zero, List.append_nil] at hrow
        have c1 := hR.c1
        rw [rdInts_err] at HP2
        have hK : Keeps (fun x => x = w.heap.size) wr ((wr.setCell ⟨w.heap.size, 0, none⟩ (.int .i64 t)).setCell ⟨w.heap.size, 1, none⟩ (.slice (some ⟨nb, 0, none⟩) j j)) := ((Keeps.refl (fun x => x = w.heap.size) wr).setCell (p := ⟨w.heap.size, 0, none⟩) rfl _).setCell (p := ⟨w.heap.size, 1, none⟩) rfl _
        have hsE := hK.size
        have hbE : Below w.heap.size w ((wr.setCell ⟨w.heap.size, 0, none⟩ (.int .i64 t)).setCell ⟨w.heap.size, 1, none⟩ (.slice (some ⟨nb, 0, none⟩) j j)) := hbel.trans (hK.below (by omega) (fun i e => by omega))
        have x0 : ((wr.setCell ⟨w.heap.size, 0, none⟩ (.int .i64 t)).setCell ⟨w.heap.size, 1, none⟩ (.slice (some ⟨nb, 0, none⟩) j j)).cell? ⟨w.heap.size, 0, none⟩ = some (.int .i64 t) := by rw [World.cell?_setCell_other _ _ _ _ (by simp)]; exact World.cell?_setCell_same _ _ _ d0
        have x1 : ((wr.setCell ⟨w.heap.size, 0, none⟩ (.int .i64 t)).setCell ⟨w.heap.size, 1, none⟩ (.slice (some ⟨nb, 0, none⟩) j j)).cell? ⟨w.heap.size, 1, none⟩ = some (.slice (some ⟨nb, 0, none⟩) j j) := World.cell?_setCell_same _ _ _ ((World.cell?_setCell_other _ _ _ _ (by simp)).trans d1)
        have HX : Hid (IntsAt ((wr.setCell ⟨w.heap.size, 0, none⟩ (.int .i64 t)).setCell ⟨w.heap.size, 1, none⟩ (.slice (some ⟨nb, 0, none⟩) j j)) ((wr.setCell ⟨w.heap.size, 0, none⟩ (.int .i64 t)).setCell ⟨w.heap.size, 1, none⟩ (.slice (some ⟨nb, 0, none⟩) j j)).heap.size (some ⟨nb, 0, none⟩) (rdInts j r2 e2).1.length (rdInts j r2 e2).1) := by
          refine ⟨rfl, hfit, Or.inr ⟨nb, 0, rfl, by omega, ?_⟩⟩
          exact range_of_row ((hK.block nb hnbs (fun x => by omega)).trans hrow) _ rfl
        clear hI hout hrow hbel hK hR fz hfit
        go_wp2_with fail
        refine (rerr_cell rb _ wr c1).mono ?_
        rintro e w5 ⟨rfl, hw5⟩
        subst hw5
        clear c1
        rw [hlen] at HX
        generalize (rdInts j r2 e2).1 = A at HP2 hlen HX
        generalize (rdSt j r2 e2).2 = er at HP2 ⊢
        by_cases her : er = 0
        · subst her
          have hP : Hid (parseOf s = some (t, A)) := by show parseOf s = _; rw [HP2.out, if_pos rfl]
          clear HP2
          go_wp2_with fail
          refine bodyPost_ret (res_cell (p := 2) (q := 3) rfl _ _ w.heap.size _ _ _ rfl rfl x0 x1) rfl ?_
          refine ⟨hbE, _, _, _, _, true, rfl, fun e => (by rw [hP.out] at e; cases e), fun t' ns' e => ?_⟩
          rw [hP.out] at e
          cases e
          exact ⟨rfl, rfl, hlen.symm, by rw [hlen]; exact HX.out, fun b o e => by cases e; omega⟩
        · have hP : Hid (parseOf s = none) := by show parseOf s = _; rw [HP2.out, if_neg her]
          have her' : (er == 0) = false := by simp [her]
          clear HP2 her
          go_wp2_with fail
          refine bodyPost_ret (res_cell (p := 2) (q := 3) rfl _ _ w.heap.size _ _ _ rfl rfl x0 x1) rfl ?_
          exact ⟨hbE, _, _, _, _, false, rfl, fun _ => rfl, fun t' ns' e => by rw [hP.out] at e; cases e⟩
end Go.Proofs.YteaacodloabdcaaGreatDoor

namespace Go.Proofs.YteaacodloabdcaaGreatDoor
open Go.RowKit

theorem equal_at (g1 o1 l1 c1 g2 o2 l2 c2 : Nat) (s1 s2 : List UInt8) (w : World) (h1 : s1.length = l1) (h2 : s2.length = l2) (hr1 : w.rangeAt g1 o1 (bytesV s1)) (hr2 : w.rangeAt g2 o2 (bytesV s2)) :
    Calls Tryz.prog 181 #[.slice (some ⟨g1, o1, none⟩) l1 c1, .slice (some ⟨g2, o2, none⟩) l2 c2] w fun e w' => e = .returned (.bool (s1 == s2)) ∧ w' = w := by
  have k1 := conv_bytes g1 o1 l1 c1 s1 w h1 hr1
  have k2 := conv_bytes g2 o2 l2 c2 s2 w h2 hr2
  go_enter Tryz.func181, Tryz.ntmps181
  go_wp2_with fail
  go_ret
  exact ⟨rfl, rfl⟩
theorem IntsAt.up {w : World} {L L' : Nat} {a : Option Addr} {n : Nat} {A : List Int} (h : IntsAt w L a n A) (hL : L ≤ L') : IntsAt w L' a n A where
  len := h.len
  fit := h.fit
  at_ := by
    rcases h.at_ with e | ⟨b, o, e, hb, hr⟩
    · exact Or.inl e
    · exact Or.inr ⟨b, o, e, by omega, hr⟩
theorem IntsAt.keep {S : Nat → Prop} {w w' : World} {L : Nat} {a : Option Addr} {n : Nat} {A : List Int} (h : IntsAt w L a n A) (hL : L ≤ w.heap.size) (hk : Keeps S w w') (hS : ∀ b o, a = some ⟨b, o, none⟩ → n ≠ 0 → ¬ S b) : IntsAt w' L a n A where
  len := h.len
  fit := h.fit
  at_ := by
    rcases h.at_ with e | ⟨b, o, e, hb, hr⟩
    · exact Or.inl e
    · by_cases hn : n = 0
      · exact Or.inl hn
      · exact Or.inr ⟨b, o, e, hb, fun j v hv => (hk.cell (p := ⟨b, o + j, none⟩) (by show b < _; omega) (hS b o e hn)).trans (hr j v hv)⟩
/-- A result's two cells, stored. -/
theorem ret59 {T : World} {rc : Nat} (h : T.heap[rc]? = some (.cells #[.int .i64 0, .slice none 0 0] 172)) (u v : Value) : T.cell? ⟨rc, 0, none⟩ = some (.int .i64 0) ∧ T.cell? ⟨rc, 1, none⟩ = some (.slice none 0 0) ∧ T.frozen? ⟨rc, 0, none⟩ = false ∧ T.frozen? ⟨rc, 1, none⟩ = false ∧
    ((T.setCell ⟨rc, 0, none⟩ u).setCell ⟨rc, 1, none⟩ v).cell? ⟨rc, 0, none⟩ = some u ∧ ((T.setCell ⟨rc, 0, none⟩ u).setCell ⟨rc, 1, none⟩ v).cell? ⟨rc, 1, none⟩ = some v ∧ Keeps (fun x => x = rc) T ((T.setCell ⟨rc, 0, none⟩ u).setCell ⟨rc, 1, none⟩ v) := by
  have d0 : T.cell? ⟨rc, 0, none⟩ = some (.int .i64 0) := by rw [cell_of_row _ _ 0 _ 172 (0, 0) h]; rfl
  have d1 : T.cell? ⟨rc, 1, none⟩ = some (.slice none 0 0) := by rw [cell_of_row _ _ 1 _ 172 (0, 0) h]; rfl
  have fz : ∀ o, T.frozen? ⟨rc, o, none⟩ = false := fun o => by unfold World.frozen?; rw [h]; simp
  refine ⟨d0, d1, fz 0, fz 1, ?_, ?_, ((Keeps.refl (fun x => x = rc) T).setCell (p := ⟨rc, 0, none⟩) rfl _).setCell (p := ⟨rc, 1, none⟩) rfl _⟩
  · rw [World.cell?_setCell_other _ _ _ _ (by simp)]; exact World.cell?_setCell_same _ _ _ d0
  · exact World.cell?_setCell_same _ _ _ ((World.cell?_setCell_other _ _ _ _ (by simp)).trans d1)
/-- What load tells. -/
def LoadP (x : Option (Int × List Int)) (w : World) (e : Ending) (w' : World) : Prop := Below w.heap.size w w' ∧ ∃ cv ok, e = .returned (.tuple #[cv, .bool ok]) ∧ (x = none → ok = false ∧ cv = .agg #[.int .i64 0, .slice none 0 0]) ∧ (∀ t ns, x = some (t, ns) → ok = true ∧ ∃ ka kc, cv = .agg #[.int .i64 t, .slice ka ns.length kc] ∧ IntsAt w' w'.heap.size ka ns.length ns ∧ ∀ b o, ka = some ⟨b, o, none⟩ → w.heap.size ≤ b)

set_option maxRecDepth 100000 in
set_option maxHeartbeats 1000000 in
theorem load_at {w : World} {db nb mb n cap : Nat} {B : List UInt8} {k : Nat} {D : DataW Unit} {left : Int} {down : Bool} (h : DevAt w db nb mb n cap B k D left down) (i : Nat) (hi : i < n) :
    Calls Tryz.prog 158 #[.pointer (some ⟨db, 0, none⟩), .int .i64 i] w (LoadP (loadOf (sec B i)) w) := by
  have hn0 := heap_alloc_last w (.cells #[.int .i64 0, .slice none 0 0] 172)
  have hs0 : (w.alloc (.cells #[.int .i64 0, .slice none 0 0] 172)).heap.size = w.heap.size + 1 := by simp
  have hb0 : Below w.heap.size w (w.alloc (.cells #[.int .i64 0, .slice none 0 0] 172)) := (Below.refl _ w).alloc (Nat.le_refl _) _
  have hlen := sec_length h.len hi
  obtain ⟨s, hs⟩ : ∃ s, s = sec B i := ⟨_, rfl⟩
  rw [← hs] at hlen ⊢
  go_enter Tryz.func158, Tryz.ntmps158
  go_wp2_with fail
  generalize w.alloc (.cells #[.int .i64 0, .slice none 0 0] 172) = w0 at hn0 hs0 hb0 ⊢
  have h0 := h.keeps (Keeps.of_below (S := fun _ => False) hb0) (fun e => e) (fun e => e) (fun e => e)
  refine (read_yes h0 i hi).mono ?_
  rintro e w1 ⟨v1, rfl, hown1, hne1, hb1⟩
  rw [← hs] at hown1
  obtain ⟨g1, c1, rfl⟩ := row_shape hown1 hne1
  obtain ⟨q1, q2, q3, q4, q5⟩ := row_base hown1
  have hs1 := hb1.size
  have hn1 : w1.heap[w.heap.size]? = some (.cells #[.int .i64 0, .slice none 0 0] 172) := (hb1.block _ (by omega)).trans hn0
  have hbw1 : Below w.heap.size w w1 := hb0.trans (hb1.mono (by omega))
  clear h h0 hb0 hb1 hn0 hown1 hne1 q5
  clear hs
  go_wp2_with fail
  refine (parse_at g1 0 c1 s hlen w1 q3).mono ?_
  rintro e w2 ⟨hb2, t', ka, kl, kc, ok, rfl, hN, hS⟩
  have hs2 := hb2.size
  have hn2 : w2.heap[w.heap.size]? = some (.cells #[.int .i64 0, .slice none 0 0] 172) := (hb2.block _ (by omega)).trans hn1
  have hbw2 : Below w.heap.size w w2 := hbw1.trans (hb2.mono (by omega))
  have r2 : w2.rangeAt g1 0 (bytesV s) := fun j v hv => (hb2.cell (p := ⟨g1, 0 + j, none⟩) q2).trans (q3 j v hv)
  clear hn1 hbw1 q3
  cases hp : parseOf s with
  | none =>
    have hok := hN hp
    subst hok
    have hL : Hid (loadOf s = none) := by show loadOf s = none; unfold loadOf; rw [hp]
    have hnT : (w2.alloc (.cells #[.int .i64 t', .slice ka kl kc] 172)).heap[w.heap.size]? = some (.cells #[.int .i64 0, .slice none 0 0] 172) := (Below.heap_alloc _ _ _ (by omega)).trans hn2
    have hbT : Below w.heap.size w (w2.alloc (.cells #[.int .i64 t', .slice ka kl kc] 172)) := hbw2.alloc hbw2.size _
    obtain ⟨d0, d1, z0, z1, x0, x1, hK⟩ := ret59 hnT (.int .i64 0) (.slice none 0 0)
    have hbE := hbT.trans (hK.below hbT.size (fun i e => by omega))
    clear hN hS hp hK hnT hbT
    go_wp2_with fail
    refine bodyPost_ret (res_cell (p := 4) (q := 5) rfl _ _ w.heap.size _ _ _ rfl rfl x0 x1) rfl ?_
    exact ⟨hbE, _, false, rfl, fun _ => ⟨rfl, rfl⟩, fun t ns e => by rw [hL.out] at e; cases e⟩
  | some x =>
    obtain ⟨t, ns⟩ := x
    obtain ⟨hok, rfl, rfl, hA, hfr⟩ := hS t ns hp
    subst hok
    have hF := parseOf_fine hp
    have hL : Hid (loadOf s = if s = secOf t' ns then some (t', ns) else none) := by show loadOf s = _; unfold loadOf; rw [hp]
    clear hN hS hp
    have hn3 : (w2.alloc (.cells #[.int .i64 t', .slice ka ns.length kc] 172)).heap[w.heap.size]? = some (.cells #[.int .i64 0, .slice none 0 0] 172) := (Below.heap_alloc _ _ _ (by omega)).trans hn2
    have hc3 := heap_alloc_last w2 (.cells #[.int .i64 t', .slice ka ns.length kc] 172)
    have hb23 : Below w2.heap.size w2 (w2.alloc (.cells #[.int .i64 t', .slice ka ns.length kc] 172)) := (Below.refl _ w2).alloc (Nat.le_refl _) _
    have hs3 : (w2.alloc (.cells #[.int .i64 t', .slice ka ns.length kc] 172)).heap.size = w2.heap.size + 1 := by simp
    go_wp2_with fail
    generalize w2.alloc (.cells #[.int .i64 t', .slice ka ns.length kc] 172) = w3 at hn3 hc3 hb23 hs3 ⊢
    have hA3 := (hA.below hb23).up (show w2.heap.size ≤ w3.heap.size by omega)
    have r3 : w3.rangeAt g1 0 (bytesV s) := fun j v hv => (hb23.cell (p := ⟨g1, 0 + j, none⟩) (by show g1 < _; omega)).trans (r2 j v hv)
    have hbw3 : Below w.heap.size w w3 := hbw2.trans (hb23.mono (by omega))
    refine (sector_at t' ns hF ka kc w3 hA3).mono ?_
    rintro e w4 ⟨g4, rfl, p1, p2, p3, hb34⟩
    have hs4 := hb34.size
    have hn4 : w4.heap[w.heap.size]? = some (.cells #[.int .i64 0, .slice none 0 0] 172) := (hb34.block _ (by omega)).trans hn3
    have hc4 : w4.heap[w2.heap.size]? = some (.cells #[.int .i64 t', .slice ka ns.length kc] 172) := (hb34.block _ (by omega)).trans hc3
    have r4 : w4.rangeAt g1 0 (bytesV s) := fun j v hv => (hb34.cell (p := ⟨g1, 0 + j, none⟩) (by show g1 < _; omega)).trans (r3 j v hv)
    have hA4 := (hA3.below hb34).up hs4
    have hbw4 : Below w.heap.size w w4 := hbw3.trans (hb34.mono (by omega))
    have v0 : w4.cell? ⟨w2.heap.size, 0, none⟩ = some (.int .i64 t') := by rw [cell_of_row _ _ 0 _ 172 (0, 0) hc4]; rfl
    have v1 : w4.cell? ⟨w2.heap.size, 1, none⟩ = some (.slice ka ns.length kc) := by rw [cell_of_row _ _ 1 _ 172 (0, 0) hc4]; rfl
    have hl4 := secOf_len hF
    clear hA hA3 r2 r3 hn2 hn3 hc3 hbw2 hbw3 hb23 hb34
    go_wp2_with fail
    refine (equal_at g1 0 64 c1 g4 0 64 64 s (secOf t' ns) w4 hlen hl4 r4 p3).mono ?_
    rintro e w5 ⟨rfl, hw5⟩
    subst hw5
    by_cases heq : s = secOf t' ns
    · have hL1 : Hid (loadOf s = some (t', ns)) := by show loadOf s = _; rw [hL.out, if_pos heq]
      have hb : (s == secOf t' ns) = true := by rw [beq_iff_eq]; exact heq
      obtain ⟨d0, d1, z0, z1, x0, x1, hK⟩ := ret59 hn4 (.int .i64 t') (.slice ka ns.length kc)
      have hbE := hbw4.trans (hK.below hbw4.size (fun i e => by omega))
      have hsE := hK.size
      have HA : Hid (IntsAt ((w5.setCell ⟨w.heap.size, 0, none⟩ (.int .i64 t')).setCell ⟨w.heap.size, 1, none⟩ (.slice ka ns.length kc)) ((w5.setCell ⟨w.heap.size, 0, none⟩ (.int .i64 t')).setCell ⟨w.heap.size, 1, none⟩ (.slice ka ns.length kc)).heap.size ka ns.length ns) := by
        refine (hA4.keep (Nat.le_refl _) hK ?_).up hsE
        intro b o e _ e2
        have := hfr b o e
        omega
      clear hL hK heq hA4 r4 p3
      go_wp2_with fail
      refine bodyPost_ret (res_cell (p := 4) (q := 5) rfl _ _ w.heap.size _ _ _ rfl rfl x0 x1) rfl ?_
      refine ⟨hbE, _, true, rfl, fun e => (by rw [hL1.out] at e; cases e), fun t ns' e => ?_⟩
      rw [hL1.out] at e
      cases e
      exact ⟨rfl, ka, kc, rfl, HA.out, fun b o e => by have := hfr b o e; omega⟩
    · have hL1 : Hid (loadOf s = none) := by show loadOf s = _; rw [hL.out, if_neg heq]
      have hb : (s == secOf t' ns) = false := by rw [beq_eq_false_iff_ne]; exact heq
      obtain ⟨d0, d1, z0, z1, x0, x1, hK⟩ := ret59 hn4 (.int .i64 0) (.slice none 0 0)
      have hbE := hbw4.trans (hK.below hbw4.size (fun i e => by omega))
      clear hL hK heq hA4 r4 p3
      go_wp2_with fail
      refine bodyPost_ret (res_cell (p := 4) (q := 5) rfl _ _ w.heap.size _ _ _ rfl rfl x0 x1) rfl ?_
      exact ⟨hbE, _, false, rfl, fun _ => ⟨rfl, rfl⟩, fun t ns e => by rw [hL1.out] at e; cases e⟩
end Go.Proofs.YteaacodloabdcaaGreatDoor

namespace Go.Proofs.YteaacodloabdcaaGreatDoor
open Go.RowKit

theorem after_at (t : Int) (h0 : 0 ≤ t) (h1 : t < turns) (w : World) : Calls Tryz.prog 156 #[.int .i64 t] w fun e w' => e = .returned (.int .i64 (afterT t)) ∧ w' = w := by
  have h1' : t < 1099511627776 := h1
  have hm : (t + 1).tmod 1099511627776 = afterT t := by rw [Int.tmod_eq_emod_of_nonneg (by omega)]; rfl
  go_enter Tryz.func156, Tryz.ntmps156
  go_wp2_with fail
  go_ret
  exact ⟨rfl, rfl⟩
theorem newerT_eq (a b : Int) : newerT a b = (a != b && decide ((a - b) % 1099511627776 < 549755813888)) := by
  unfold newerT turns
  rw [Int.add_emod_right]
  congr 1
  by_cases h : a = b <;> simp [h]
theorem newerT_self (a : Int) : newerT a a = false := by rw [newerT_eq]; simp
theorem newer_at (a b : Int) (h0 : 0 ≤ a) (h1 : a < turns) (h2 : 0 ≤ b) (h3 : b < turns) (w : World) : Calls Tryz.prog 159 #[.int .i64 a, .int .i64 b] w fun e w' => e = .returned (.bool (newerT a b)) ∧ w' = w := by
  have h1' : a < 1099511627776 := h1
  have h3' : b < 1099511627776 := h3
  have e1 := newerT_eq a b
  by_cases hab : a = b
  · subst hab
    rw [newerT_self]
    clear e1
    go_enter Tryz.func159, Tryz.ntmps159
    go_wp2_with fail
    go_ret
    exact ⟨rfl, rfl⟩
  · rw [e1]
    clear e1
    go_enter Tryz.func159, Tryz.ntmps159
    go_wp2_with fail
    go_ret
    exact ⟨rfl, rfl⟩
def NewestP (x : Nat × Option (Int × List Int)) (w : World) (e : Ending) (w' : World) : Prop := Below w.heap.size w w' ∧ ∃ cv ok, e = .returned (.tuple #[.int .i64 x.1, cv, .bool ok]) ∧ (x.2 = none → ok = false ∧ cv = .agg #[.int .i64 0, .slice none 0 0]) ∧ (∀ t ns, x.2 = some (t, ns) → ok = true ∧ ∃ ka kc, cv = .agg #[.int .i64 t, .slice ka ns.length kc] ∧ IntsAt w' w'.heap.size ka ns.length ns ∧ ∀ b o, ka = some ⟨b, o, none⟩ → w.heap.size ≤ b)

theorem below_dr {B : Nat} {a W : World} (h : Below B a W) : Below B a W.drew := ⟨h.os, h.tape, h.output, h.size, h.block⟩
theorem fin_ints {wC E : World} {rc n : Nat} {ka : Option Addr} {ns : List Int} (hA : IntsAt wC wC.heap.size ka n ns) (hK : Keeps (fun x => x = rc) wC E) (hf : ∀ b o, ka = some ⟨b, o, none⟩ → rc < b) : IntsAt E.drew E.drew.heap.size ka n ns := by
  have h1 : IntsAt E wC.heap.size ka n ns := hA.keep (Nat.le_refl _) hK (fun b o e _ e2 => by have := hf b o e; omega)
  have h2 := h1.up hK.size
  exact h2.keep (S := fun _ => False) (Nat.le_refl _) (Keeps.drew (Keeps.refl _ E)) (fun _ _ _ _ e => e)
theorem res3 {fn : Func} {o p q : Tmp} (h : fn.results = #[.tmp o, .cell p 172, .tmp q]) (tmps : Array Value) (w : World) (r : Nat) (x u v z : Value) (ho : tmps.getD o undef = x) (hp : tmps.getD p undef = .pointer (some ⟨r, 0, none⟩)) (hq : tmps.getD q undef = z) (h0 : w.cell? ⟨r, 0, none⟩ = some u) (h1 : w.cell? ⟨r, 1, none⟩ = some v) :
    (results fn tmps).run Tryz.prog w = .ok (.tuple #[x, .agg #[u, v], z]) w := by
  have ha : (asAddr (.pointer (some ⟨r, 0, none⟩))).run Tryz.prog w = .ok ⟨r, 0, none⟩ w := rfl
  have hl := load59 r u v w h0 h1
  rw [Array.getD_eq_getD_getElem?] at ho hp hq
  simp only [results, h]
  simp [Sem.run_bind, Result.andThen, ho, hp, hq, ha, hl]
theorem load_lit {w : World} {db nb mb n cap : Nat} {B : List UInt8} {k : Nat} {D : DataW Unit} {left : Int} {down : Bool} (h : DevAt w db nb mb n cap B k D left down) (v : Int) (i : Nat) (hv : v = (i : Int)) (hi : i < n) :
    Calls Tryz.prog 158 #[.pointer (some ⟨db, 0, none⟩), .int .i64 v] w fun e w' => Below w.heap.size w w' ∧ ∃ t ka kl kc ok, e = .returned (.tuple #[.agg #[.int .i64 t, .slice ka kl kc], .bool ok]) ∧ (loadOf (sec B i) = none → ok = false ∧ t = 0 ∧ ka = none ∧ kl = 0 ∧ kc = 0) ∧ (∀ t' ns, loadOf (sec B i) = some (t', ns) → ok = true ∧ t = t' ∧ kl = ns.length ∧ IntsAt w' w'.heap.size ka ns.length ns ∧ ∀ b o, ka = some ⟨b, o, none⟩ → w.heap.size ≤ b) := by
  subst hv
  refine (load_at h i hi).mono ?_
  rintro e w' ⟨hb, cv, ok, rfl, hN, hS⟩
  refine ⟨hb, ?_⟩
  cases hx : loadOf (sec B i) with
  | none =>
    obtain ⟨rfl, rfl⟩ := hN hx
    exact ⟨0, none, 0, 0, false, rfl, fun _ => ⟨rfl, rfl, rfl, rfl, rfl⟩, fun t' ns e => by cases e⟩
  | some c =>
    obtain ⟨t, ns⟩ := c
    obtain ⟨rfl, ka, kc, rfl, hA, hf⟩ := hS t ns hx
    refine ⟨t, ka, ns.length, kc, true, rfl, fun e => (by cases e), fun t' ns' e => ?_⟩
    cases e
    exact ⟨rfl, rfl, rfl, hA, hf⟩

set_option maxRecDepth 100000 in
set_option maxHeartbeats 1000000 in
theorem newest_at {w : World} {db nb mb n cap : Nat} {B : List UInt8} {k : Nat} {D : DataW Unit} {left : Int} {down : Bool} (h : DevAt w db nb mb n cap B k D left down) (hn2 : 2 ≤ n) :
    Calls Tryz.prog 118 #[.pointer (some ⟨db, 0, none⟩)] w (NewestP (newestOf (sec B 0) (sec B 1)) w) := by
  have hn0 := heap_alloc_last w (.cells #[.int .i64 0, .slice none 0 0] 172)
  have hs0 : (w.alloc (.cells #[.int .i64 0, .slice none 0 0] 172)).heap.size = w.heap.size + 1 := by simp
  have hb0 : Below w.heap.size w (w.alloc (.cells #[.int .i64 0, .slice none 0 0] 172)) := (Below.refl _ w).alloc (Nat.le_refl _) _
  obtain ⟨s0, e0⟩ : ∃ s, s = sec B 0 := ⟨_, rfl⟩
  obtain ⟨s1, e1⟩ : ∃ s, s = sec B 1 := ⟨_, rfl⟩
  rw [← e0, ← e1]
  go_enter Tryz.func118, Tryz.ntmps118
  go_wp2_with fail
  generalize w.alloc (.cells #[.int .i64 0, .slice none 0 0] 172) = w0 at hn0 hs0 hb0 ⊢
  have h0 := h.keeps (Keeps.of_below (S := fun _ => False) hb0) (fun e => e) (fun e => e) (fun e => e)
  have k0 := load_lit h0 0 0 rfl (by omega)
  rw [← e0] at k0
  refine k0.mono ?_
  rintro e w1 ⟨hb1, t0, ka0, kl0, kc0, ok0, rfl, hN0, hS0⟩
  clear k0
  have hs1 := hb1.size
  have hbA : Below w1.heap.size w1 (w1.alloc (.cells #[.int .i64 t0, .slice ka0 kl0 kc0] 172)) := (Below.refl _ w1).alloc (Nat.le_refl _) _
  have hvA := heap_alloc_last w1 (.cells #[.int .i64 t0, .slice ka0 kl0 kc0] 172)
  have hsA : (w1.alloc (.cells #[.int .i64 t0, .slice ka0 kl0 kc0] 172)).heap.size = w1.heap.size + 1 := by simp
  go_wp2_with fail
  generalize w1.alloc (.cells #[.int .i64 t0, .slice ka0 kl0 kc0] 172) = wA at hbA hvA hsA ⊢
  have hb0A : Below w0.heap.size w0 wA := hb1.trans (hbA.mono hs1)
  have hA := h0.keeps (Keeps.of_below (S := fun _ => False) hb0A) (fun e => e) (fun e => e) (fun e => e)
  have k1 := load_lit hA 1 1 rfl (by omega)
  rw [← e1] at k1
  refine k1.mono ?_
  rintro e w2 ⟨hb2, t1, ka1, kl1, kc1, ok1, rfl, hN1, hS1⟩
  clear k1
  have hs2 := hb2.size
  have hbC : Below w2.heap.size w2 (w2.alloc (.cells #[.int .i64 t1, .slice ka1 kl1 kc1] 172)) := (Below.refl _ w2).alloc (Nat.le_refl _) _
  have hvC := heap_alloc_last w2 (.cells #[.int .i64 t1, .slice ka1 kl1 kc1] 172)
  have hsC : (w2.alloc (.cells #[.int .i64 t1, .slice ka1 kl1 kc1] 172)).heap.size = w2.heap.size + 1 := by simp
  have hb2C : Below w.heap.size w (w2.alloc (.cells #[.int .i64 t1, .slice ka1 kl1 kc1] 172)) := (hb0.trans ((hb0A.trans (hb2.mono (by omega))).mono (by omega))).alloc (by have := hb0.size; omega) _
  have hvA2 : (w2.alloc (.cells #[.int .i64 t1, .slice ka1 kl1 kc1] 172)).heap[w1.heap.size]? = some (.cells #[.int .i64 t0, .slice ka0 kl0 kc0] 172) := (Below.heap_alloc _ _ _ (by omega)).trans ((hb2.block _ (by omega)).trans hvA)
  have hout : (w2.alloc (.cells #[.int .i64 t1, .slice ka1 kl1 kc1] 172)).heap[w.heap.size]? = some (.cells #[.int .i64 0, .slice none 0 0] 172) := (Below.heap_alloc _ _ _ (by omega)).trans ((hb2.block _ (by omega)).trans ((hbA.block _ (by omega)).trans ((hb1.block _ (by omega)).trans hn0)))
  have a0 : (w2.alloc (.cells #[.int .i64 t1, .slice ka1 kl1 kc1] 172)).cell? ⟨w1.heap.size, 0, none⟩ = some (.int .i64 t0) := by rw [cell_of_row _ _ 0 _ 172 (0, 0) hvA2]; rfl
  have a1 : (w2.alloc (.cells #[.int .i64 t1, .slice ka1 kl1 kc1] 172)).cell? ⟨w1.heap.size, 1, none⟩ = some (.slice ka0 kl0 kc0) := by rw [cell_of_row _ _ 1 _ 172 (0, 0) hvA2]; rfl
  have b0 : (w2.alloc (.cells #[.int .i64 t1, .slice ka1 kl1 kc1] 172)).cell? ⟨w2.heap.size, 0, none⟩ = some (.int .i64 t1) := by rw [cell_of_row _ _ 0 _ 172 (0, 0) hvC]; rfl
  have b1 : (w2.alloc (.cells #[.int .i64 t1, .slice ka1 kl1 kc1] 172)).cell? ⟨w2.heap.size, 1, none⟩ = some (.slice ka1 kl1 kc1) := by rw [cell_of_row _ _ 1 _ 172 (0, 0) hvC]; rfl
  have n1 : w.heap.size ≠ w1.heap.size := by omega
  have n2 : w.heap.size ≠ w2.heap.size := by omega
  have hS0' : ∀ t' ns, loadOf s0 = some (t', ns) → IntsAt (w2.alloc (.cells #[.int .i64 t1, .slice ka1 kl1 kc1] 172)) (w2.alloc (.cells #[.int .i64 t1, .slice ka1 kl1 kc1] 172)).heap.size ka0 ns.length ns := fun t' ns e => by
    obtain ⟨_, _, _, q, _⟩ := hS0 t' ns e
    have hb12 : Below w1.heap.size w1 (w2.alloc (.cells #[.int .i64 t1, .slice ka1 kl1 kc1] 172)) := (hbA.trans (hb2.mono (by omega))).alloc (by omega) _
    exact (q.below hb12).up hb12.size
  have hS1' : ∀ t' ns, loadOf s1 = some (t', ns) → IntsAt (w2.alloc (.cells #[.int .i64 t1, .slice ka1 kl1 kc1] 172)) (w2.alloc (.cells #[.int .i64 t1, .slice ka1 kl1 kc1] 172)).heap.size ka1 ns.length ns := fun t' ns e => by
    obtain ⟨_, _, _, q, _⟩ := hS1 t' ns e
    exact (q.below hbC).up hbC.size
  cases hx1 : loadOf s1 with
  | none =>
    obtain ⟨rfl, rfl, rfl, rfl, rfl⟩ := hN1 hx1
    have hX : Hid (newestOf s0 s1 = (0, loadOf s0)) := by show newestOf s0 s1 = _; unfold newestOf; rw [hx1]
    have H0 : Hid ((loadOf s0 = none → ok0 = false ∧ t0 = 0 ∧ ka0 = none ∧ kl0 = 0 ∧ kc0 = 0) ∧ (∀ t' ns, loadOf s0 = some (t', ns) → ok0 = true ∧ t0 = t' ∧ kl0 = ns.length ∧ IntsAt w1 w1.heap.size ka0 ns.length ns ∧ ∀ b o, ka0 = some ⟨b, o, none⟩ → w0.heap.size ≤ b)) := ⟨hN0, hS0⟩
    clear hN0 hS0 hN1 hS1 hS1' hx1 hvA2 hvC h h0 hA b0 b1
    go_wp2_with fail
    generalize w2.alloc (.cells #[.int .i64 0, .slice none 0 0] 172) = wC at hout a0 a1 hS0' hb2C hsC hbC ⊢
    obtain ⟨d0, d1, z0, z1, x0, x1, hK⟩ := ret59 hout (.int .i64 t0) (.slice ka0 kl0 kc0)
    have hsE := hK.size
    have hbE := below_dr (hb2C.trans (hK.below hb2C.size (fun i e => by omega)))
    have x0' : ((wC.setCell ⟨w.heap.size, 0, none⟩ (.int .i64 t0)).setCell ⟨w.heap.size, 1, none⟩ (.slice ka0 kl0 kc0)).drew.cell? ⟨w.heap.size, 0, none⟩ = some (.int .i64 t0) := x0
    have x1' : ((wC.setCell ⟨w.heap.size, 0, none⟩ (.int .i64 t0)).setCell ⟨w.heap.size, 1, none⟩ (.slice ka0 kl0 kc0)).drew.cell? ⟨w.heap.size, 1, none⟩ = some (.slice ka0 kl0 kc0) := x1
    have p0 : wC.drew.cell? ⟨w1.heap.size, 0, none⟩ = some (.int .i64 t0) := a0
    have p1 : wC.drew.cell? ⟨w1.heap.size, 1, none⟩ = some (.slice ka0 kl0 kc0) := a1
    go_region_held (fun w' => w'.cell? ⟨w1.heap.size, 0, none⟩ = some (.int .i64 t0) ∧ w'.cell? ⟨w1.heap.size, 1, none⟩ = some (.slice ka0 kl0 kc0)) (first | exact ⟨p0, p1⟩ | go_keep) (fail)
    all_goals go_wp2_with fail
    all_goals refine bodyPost_ret (res3 (o := 2) (p := 3) (q := 4) rfl _ _ w.heap.size _ _ _ _ rfl rfl rfl x0' x1') rfl ?_
    all_goals refine ⟨hbE, _, ok0, by rw [hX.out]; rfl, fun e => ?_, fun t' ns e => ?_⟩
    all_goals rw [hX.out] at e
    · obtain ⟨rfl, rfl, rfl, rfl, rfl⟩ := H0.out.1 e
      exact ⟨rfl, rfl⟩
    · obtain ⟨rfl, rfl, rfl, _, hf⟩ := H0.out.2 t' ns e
      exact ⟨rfl, ka0, kc0, rfl, fin_ints (hS0' _ ns e) hK (fun b o q => by have := hf b o q; omega), fun b o q => by have := hf b o q; omega⟩
  | some gg =>
    obtain ⟨t1', ns1⟩ := gg
    obtain ⟨rfl, rfl, rfl, hI1, hf1⟩ := hS1 t1' ns1 hx1
    have hF1 := (loadOf_some hx1).1
    cases hx0 : loadOf s0 with
    | none =>
      obtain ⟨rfl, rfl, rfl, rfl, rfl⟩ := hN0 hx0
      have hX : Hid (newestOf s0 s1 = (1, some (t1, ns1))) := by show newestOf s0 s1 = _; unfold newestOf; rw [hx1, hx0]
      have hI2 := hS1' t1 ns1 hx1
      clear hN0 hS0 hN1 hS1 hS1' hS0' hx1 hx0 hvA2 hvC h h0 hA a0 a1
      go_wp2_with fail
      generalize w2.alloc (.cells #[.int .i64 t1, .slice ka1 ns1.length kc1] 172) = wC at hout b0 b1 hI2 hb2C hsC hbC ⊢
      obtain ⟨d0, d1, z0, z1, x0, x1, hK⟩ := ret59 hout (.int .i64 t1) (.slice ka1 ns1.length kc1)
      have hsE := hK.size
      have hbE := below_dr (hb2C.trans (hK.below hb2C.size (fun i e => by omega)))
      have x0' : ((wC.setCell ⟨w.heap.size, 0, none⟩ (.int .i64 t1)).setCell ⟨w.heap.size, 1, none⟩ (.slice ka1 ns1.length kc1)).drew.cell? ⟨w.heap.size, 0, none⟩ = some (.int .i64 t1) := x0
      have x1' : ((wC.setCell ⟨w.heap.size, 0, none⟩ (.int .i64 t1)).setCell ⟨w.heap.size, 1, none⟩ (.slice ka1 ns1.length kc1)).drew.cell? ⟨w.heap.size, 1, none⟩ = some (.slice ka1 ns1.length kc1) := x1
      have p0 : wC.drew.cell? ⟨w2.heap.size, 0, none⟩ = some (.int .i64 t1) := b0
      have p1 : wC.drew.cell? ⟨w2.heap.size, 1, none⟩ = some (.slice ka1 ns1.length kc1) := b1
      go_region_held (fun w' => w'.cell? ⟨w2.heap.size, 0, none⟩ = some (.int .i64 t1) ∧ w'.cell? ⟨w2.heap.size, 1, none⟩ = some (.slice ka1 ns1.length kc1)) (first | exact ⟨p0, p1⟩ | go_keep) (fail)
      all_goals go_wp2_with fail
      all_goals refine bodyPost_ret (res3 (o := 2) (p := 3) (q := 4) rfl _ _ w.heap.size _ _ _ _ rfl rfl rfl x0' x1') rfl ?_
      all_goals refine ⟨hbE, _, true, by rw [hX.out]; rfl, fun e => ?_, fun t' ns e => ?_⟩
      all_goals rw [hX.out] at e
      · cases e
      · cases e
        exact ⟨rfl, ka1, kc1, rfl, fin_ints hI2 hK (fun b o q => by have := hf1 b o q; omega), fun b o q => by have := hf1 b o q; omega⟩
    | some ff =>
      obtain ⟨t0', ns0⟩ := ff
      obtain ⟨rfl, rfl, rfl, hI0, hf0⟩ := hS0 t0' ns0 hx0
      have hF0 := (loadOf_some hx0).1
      have hI2 := hS1' t1 ns1 hx1
      have hI3 := hS0' t0 ns0 hx0
      have hX : Hid (newestOf s0 s1 = if newerT t1 t0 = true then (1, some (t1, ns1)) else (0, some (t0, ns0))) := by show newestOf s0 s1 = _; unfold newestOf; rw [hx1, hx0]
      clear hN0 hS0 hN1 hS1 hS1' hS0' hx1 hx0 hvA2 hvC h h0 hA
      clear e0 e1
      go_wp2_with fail
      generalize w2.alloc (.cells #[.int .i64 t1, .slice ka1 ns1.length kc1] 172) = wC at hout a0 a1 b0 b1 hI2 hI3 hb2C hsC hbC ⊢
      refine (newer_at t1 t0 hF1.t0 hF1.t1 hF0.t0 hF0.t1 wC).mono ?_
      rintro e w3 ⟨rfl, hw3⟩
      subst hw3
      cases hnw : newerT t1 t0
      · have hX2 : Hid (newestOf s0 s1 = (0, some (t0, ns0))) := by show newestOf s0 s1 = _; rw [hX.out, if_neg (by rw [hnw]; decide)]
        clear hX hnw
        go_wp2_with fail
        obtain ⟨d0, d1, z0, z1, x0, x1, hK⟩ := ret59 hout (.int .i64 t0) (.slice ka0 ns0.length kc0)
        have hsE := hK.size
        have hbE := below_dr (hb2C.trans (hK.below hb2C.size (fun i e => by omega)))
        have x0' : ((w3.setCell ⟨w.heap.size, 0, none⟩ (.int .i64 t0)).setCell ⟨w.heap.size, 1, none⟩ (.slice ka0 ns0.length kc0)).drew.cell? ⟨w.heap.size, 0, none⟩ = some (.int .i64 t0) := x0
        have x1' : ((w3.setCell ⟨w.heap.size, 0, none⟩ (.int .i64 t0)).setCell ⟨w.heap.size, 1, none⟩ (.slice ka0 ns0.length kc0)).drew.cell? ⟨w.heap.size, 1, none⟩ = some (.slice ka0 ns0.length kc0) := x1
        have p0 : w3.drew.cell? ⟨w1.heap.size, 0, none⟩ = some (.int .i64 t0) := a0
        have p1 : w3.drew.cell? ⟨w1.heap.size, 1, none⟩ = some (.slice ka0 ns0.length kc0) := a1
        go_region_held (fun w' => w'.cell? ⟨w1.heap.size, 0, none⟩ = some (.int .i64 t0) ∧ w'.cell? ⟨w1.heap.size, 1, none⟩ = some (.slice ka0 ns0.length kc0)) (first | exact ⟨p0, p1⟩ | go_keep) (fail)
        all_goals go_wp2_with fail
        all_goals refine bodyPost_ret (res3 (o := 2) (p := 3) (q := 4) rfl _ _ w.heap.size _ _ _ _ rfl rfl rfl x0' x1') rfl ?_
        all_goals refine ⟨hbE, _, true, by rw [hX2.out]; rfl, fun e => ?_, fun t' ns e => ?_⟩
        all_goals rw [hX2.out] at e
        · cases e
        · cases e
          exact ⟨rfl, ka0, kc0, rfl, fin_ints hI3 hK (fun b o q => by have := hf0 b o q; omega), fun b o q => by have := hf0 b o q; omega⟩
      · have hX2 : Hid (newestOf s0 s1 = (1, some (t1, ns1))) := by show newestOf s0 s1 = _; rw [hX.out, if_pos hnw]
        clear hX hnw
        go_wp2_with fail
        obtain ⟨d0, d1, z0, z1, x0, x1, hK⟩ := ret59 hout (.int .i64 t1) (.slice ka1 ns1.length kc1)
        have hsE := hK.size
        have hbE := below_dr (hb2C.trans (hK.below hb2C.size (fun i e => by omega)))
        have x0' : ((w3.setCell ⟨w.heap.size, 0, none⟩ (.int .i64 t1)).setCell ⟨w.heap.size, 1, none⟩ (.slice ka1 ns1.length kc1)).drew.cell? ⟨w.heap.size, 0, none⟩ = some (.int .i64 t1) := x0
        have x1' : ((w3.setCell ⟨w.heap.size, 0, none⟩ (.int .i64 t1)).setCell ⟨w.heap.size, 1, none⟩ (.slice ka1 ns1.length kc1)).drew.cell? ⟨w.heap.size, 1, none⟩ = some (.slice ka1 ns1.length kc1) := x1
        have p0 : w3.drew.cell? ⟨w2.heap.size, 0, none⟩ = some (.int .i64 t1) := b0
        have p1 : w3.drew.cell? ⟨w2.heap.size, 1, none⟩ = some (.slice ka1 ns1.length kc1) := b1
        go_region_held (fun w' => w'.cell? ⟨w2.heap.size, 0, none⟩ = some (.int .i64 t1) ∧ w'.cell? ⟨w2.heap.size, 1, none⟩ = some (.slice ka1 ns1.length kc1)) (first | exact ⟨p0, p1⟩ | go_keep) (fail)
        all_goals go_wp2_with fail
        all_goals refine bodyPost_ret (res3 (o := 2) (p := 3) (q := 4) rfl _ _ w.heap.size _ _ _ _ rfl rfl rfl x0' x1') rfl ?_
        all_goals refine ⟨hbE, _, true, by rw [hX2.out]; rfl, fun e => ?_, fun t' ns e => ?_⟩
        all_goals rw [hX2.out] at e
        · cases e
        · cases e
          exact ⟨rfl, ka1, kc1, rfl, fin_ints hI2 hK (fun b o q => by have := hf1 b o q; omega), fun b o q => by have := hf1 b o q; omega⟩
end Go.Proofs.YteaacodloabdcaaGreatDoor
