import Derived.Test.YtlmdeafmlommeaaGreatDoorSlD
import Derived.Test.YtlmdeafmlommeaaGreatDoorLeastA
import Derived.Laws.ResultCell
namespace Go.Proofs.YtlmdeafmlommeaaGreatDoor
open Go.RowKit

theorem load59 (r : Nat) (u v : Value) (w : World) (h0 : w.cell? ⟨r, 0, none⟩ = some u) (h1 : w.cell? ⟨r, 1, none⟩ = some v) : (loadVar 110 ⟨r, 0, none⟩).run Tryz.prog w = .ok (.agg #[u, v]) w := by
  go_simp
theorem res_cell {fn : Func} {p q : Tmp} (h : fn.results = #[.cell p 110, .tmp q]) (tmps : Array Value) (w : World) (r : Nat) (u v z : Value) (hp : tmps.getD p undef = .pointer (some ⟨r, 0, none⟩)) (hq : tmps.getD q undef = z) (h0 : w.cell? ⟨r, 0, none⟩ = some u) (h1 : w.cell? ⟨r, 1, none⟩ = some v) :
    (results fn tmps).run Tryz.prog w = .ok (.tuple #[.agg #[u, v], z]) w := by
  rw [results_cell_tmp h, hp, hq]
  have ha : (asAddr (.pointer (some ⟨r, 0, none⟩))).run Tryz.prog w = .ok ⟨r, 0, none⟩ w := rfl
  rw [ha]
  simp only [Result.andThen]
  rw [load59 r u v w h0 h1]
theorem info2 : (Tryz.prog.info? 2).map (fun i => (i.zero, i.size, i.bytes)) = some (some (.int .i64 0), 1, 8) := by kernel_rfl
theorem mkI (m : Nat) (h : m ≤ 4) (w : World) : (Instr.makeSlice 69 (.int .i64 m) (.int .i64 m)).run Tryz.prog w = .ok (.slice (some ⟨w.heap.size, 0, none⟩) m m) (w.alloc (.cells (Array.replicate m (.int .i64 0)) 2)) := by
  have hx := info2
  cases hq : Tryz.prog.info? 2 with
  | none => rw [hq] at hx; cases hx
  | some i =>
    rw [hq] at hx
    simp only [Option.map_some, Option.some.injEq, Prod.mk.injEq] at hx
    obtain ⟨h1, h2, h3⟩ := hx
    rw [run_make w 69 2 i _ Tryz.underlying69 hq h1 .i64 .i64 m m (by omega) (by omega) (by rw [h3]; omega) (by omega)]
    have e : madeCells (Value.int .i64 0).cells ((m : Int).toNat * i.size) = Array.replicate m (.int .i64 0) := by
      show madeCells (Array.replicate 1 (.int .i64 0)) _ = _
      rw [madeCells_rep _ _ _ (by omega), h2]
      simp
    rw [e]
    simp
/-- The reader behind some numbers. -/
def rdSt : Nat → List UInt8 → Int → List UInt8 × Int
  | 0, s, e => (s, e)
  | k + 1, s, e => rdSt k (rdInt s e).2.1 (rdInt s e).2.2
theorem rdSt_snoc : ∀ (k : Nat) (s : List UInt8) (e : Int), rdSt (k + 1) s e = ((rdInt (rdSt k s e).1 (rdSt k s e).2).2.1, (rdInt (rdSt k s e).1 (rdSt k s e).2).2.2)
  | 0, _, _ => rfl
  | k + 1, s, e => by rw [rdSt, rdSt_snoc k]; rfl
theorem rdInts_err : ∀ (k : Nat) (s : List UInt8) (e : Int), (rdInts k s e).2 = (rdSt k s e).2
  | 0, _, _ => rfl
  | k + 1, s, e => by simp only [rdInts, rdSt]; exact rdInts_err k _ _
theorem rdInts_snoc : ∀ (k : Nat) (s : List UInt8) (e : Int), (rdInts (k + 1) s e).1 = (rdInts k s e).1 ++ [(rdInt (rdSt k s e).1 (rdSt k s e).2).1]
  | 0, _, _ => rfl
  | k + 1, s, e => by
    have := rdInts_snoc k (rdInt s e).2.1 (rdInt s e).2.2
    rw [rdInts]
    simp only
    rw [this]
    rfl
theorem RdAt.keep {S : Nat → Prop} {w w' : World} {rb : Nat} {s : List UInt8} {a : Option Addr} {c : Nat} {err : Int} (h : RdAt w rb s a c err) (hk : Keeps S w w') (h1 : ¬ S rb) (h2 : ∀ g o, a = some ⟨g, o, none⟩ → s ≠ [] → ¬ S g) : RdAt w' rb s a c err where
  c0 := (hk.cell (p := ⟨rb, 0, none⟩) h.lt h1).trans h.c0
  c1 := (hk.cell (p := ⟨rb, 1, none⟩) h.lt h1).trans h.c1
  f := fun o => (hk.frozen (p := ⟨rb, o, none⟩) h.lt h1).trans (h.f o)
  sh := by
    rcases h.sh with e | ⟨g, o, e, hne, hr⟩
    · exact Or.inl e
    · refine Or.inr ⟨g, o, e, hne, fun j v hv => ?_⟩
      have hc := hr j v hv
      have hs : s ≠ [] := by rintro rfl; simp [bytesV] at hv
      exact (hk.cell (p := ⟨g, o + j, none⟩) (World.block_lt_of_cell? w _ hc) (h2 g o e hs)).trans hc
  hc := h.hc
  hl := h.hl
/-- A block of numbers is none of bytes. -/
theorem RdAt.other {w : World} {rb nb : Nat} {s : List UInt8} {a : Option Addr} {c : Nat} {err : Int} (h : RdAt w rb s a c err) {A : List Int} (hn : w.heap[nb]? = some (.cells (A.map (Value.int .i64)).toArray 2)) : ∀ g o, a = some ⟨g, o, none⟩ → s ≠ [] → ¬ g = nb := by
  rintro g o rfl hs rfl
  rcases h.sh with ⟨e, _⟩ | ⟨g', o', e, _, hr⟩
  · cases e
  · cases e
    obtain ⟨b, r, rfl⟩ : ∃ b r, s = b :: r := by cases s; exact absurd rfl hs; exact ⟨_, _, rfl⟩
    have h1 := hr 0 (bV b) rfl
    rw [cell_of_row _ _ (o + 0) _ 2 (0, 0) hn] at h1
    have h2 : (A.map (Value.int .i64))[o + 0]? = some (bV b) := by simpa using h1
    rw [List.getElem?_map] at h2
    cases hx : A[o + 0]? with
    | none => rw [hx] at h2; cases h2
    | some x => rw [hx] at h2; simp [bV] at h2
/-- The loop's. -/
structure PI (w wr : World) (rb nb m j : Nat) (r : List UInt8) (e : Int) : Prop where
  rd : ∃ a c, RdAt wr rb (rdSt j r e).1 a c (rdSt j r e).2
  row : wr.heap[nb]? = some (.cells (((rdInts j r e).1 ++ List.replicate (m - j) 0).map (Value.int .i64)).toArray 2)
  out : wr.heap[w.heap.size]? = some (.cells #[.int .i64 0, .slice none 0 0] 110)
  bel : Below w.heap.size w wr
theorem row_cell {w : World} {nb : Nat} {A : List Int} (h : w.heap[nb]? = some (.cells (A.map (Value.int .i64)).toArray 2)) (j : Nat) (hj : j < A.length) : w.cell? ⟨nb, j, none⟩ = some (.int .i64 (A.getD j 0)) ∧ w.frozen? ⟨nb, j, none⟩ = false := by
  constructor
  · rw [cell_of_row _ _ j _ 2 (0, 0) h]
    simp [List.getElem?_map, List.getElem?_eq_getElem hj, List.getD]
  · unfold World.frozen?; rw [h]; simp
theorem PI.step {w wr w4 : World} {rb nb m j : Nat} {r : List UInt8} {e : Int} {a4 : Option Addr} {c4 : Nat} (hI : PI w wr rb nb m j r e) (hj : j < m) (hlt : rb < wr.heap.size) (hne : rb ≠ nb ∧ rb ≠ w.heap.size ∧ w.heap.size ≠ nb ∧ w.heap.size ≤ nb ∧ w.heap.size < rb)
    (hR : RdAt w4 rb (rdInt (rdSt j r e).1 (rdSt j r e).2).2.1 a4 c4 (rdInt (rdSt j r e).1 (rdSt j r e).2).2.2) (hk : Keeps (fun i => i = rb) wr w4) :
    (w4.cell? ⟨nb, j, none⟩ = some (.int .i64 0) ∧ w4.frozen? ⟨nb, j, none⟩ = false) ∧ PI w (w4.setCell ⟨nb, j, none⟩ (.int .i64 (rdInt (rdSt j r e).1 (rdSt j r e).2).1)) rb nb m (j + 1) r e := by
  obtain ⟨n1, n2, n3, n4, n5⟩ := hne
  have hnb : nb < wr.heap.size := (Array.getElem?_eq_some_iff.1 hI.row).1
  have hws : w.heap.size < wr.heap.size := (Array.getElem?_eq_some_iff.1 hI.out).1
  have row4 := (hk.block nb hnb (fun x => n1 x.symm)).trans hI.row
  have out4 := (hk.block w.heap.size hws (fun x => n2 x.symm)).trans hI.out
  have hlen : (rdInts j r e).1.length = j := rdInts_len j r e
  have hrc := row_cell row4 j (by rw [List.length_append, List.length_replicate, hlen]; omega)
  have hz : ((rdInts j r e).1 ++ List.replicate (m - j) 0).getD j 0 = 0 := by
    simp [List.getD, List.getElem?_append_right (Nat.le_of_eq hlen), hlen, List.getElem?_replicate]
    split <;> rfl
  rw [hz] at hrc
  have hk2 : Keeps (fun i => i = nb) w4 (w4.setCell ⟨nb, j, none⟩ (.int .i64 (rdInt (rdSt j r e).1 (rdSt j r e).2).1)) := (Keeps.refl (fun i => i = nb) w4).setCell (p := ⟨nb, j, none⟩) rfl _
  have hs4 := hk.size
  refine ⟨hrc, ⟨⟨a4, c4, ?_⟩, ?_, ?_, ?_⟩⟩
  · rw [rdSt_snoc]
    exact hR.keep hk2 n1 (hR.other row4)
  · rw [setCell_eq_setRow _ _ _ _ _ _ _ row4, setRow_heap _ _ _ _ _ _ row4, rdInts_snoc]
    congr 2
    have hm : m - j = (m - (j + 1)) + 1 := by omega
    rw [hm, List.replicate_succ]
    simp only [List.map_append, List.map_cons, List.append_assoc, List.cons_append, List.nil_append]
    apply Array.ext'
    simp [List.set_append_right, hlen]
  · exact (hk2.block _ (by omega) (fun x => n3 x)).trans out4
  · exact hI.bel.trans ((hk.below (by omega) (fun i x => by omega)).trans (hk2.below (by omega) (fun i x => by omega)))
/-- What parse tells. -/
def ParseP (s : List UInt8) (w : World) (e : Ending) (w' : World) : Prop := Below w.heap.size w w' ∧ ∃ t' ka kl kc ok, e = .returned (.tuple #[.agg #[.int .i64 t', .slice ka kl kc], .bool ok]) ∧ (parseOf s = none → ok = false) ∧ (∀ t ns, parseOf s = some (t, ns) → ok = true ∧ t' = t ∧ kl = ns.length ∧ IntsAt w' w'.heap.size ka ns.length ns ∧ ∀ b o, ka = some ⟨b, o, none⟩ → w.heap.size ≤ b)

set_option maxRecDepth 100000 in
set_option maxHeartbeats 1000000 in
theorem parse_at (g o c : Nat) (s : List UInt8) (hl : s.length = 64) (w : World) (hr : w.rangeAt g o (bytesV s)) :
    Calls Tryz.prog 88 #[.slice (some ⟨g, o, none⟩) 64 c] w (ParseP s w) := by
  have hg : g < w.heap.size := World.block_lt_of_cell? w _ (hr 0 (bV (s.getD 0 0)) (by unfold bytesV; rw [List.getElem?_map, List.getElem?_eq_getElem (by omega)]; simp [List.getD, List.getElem?_eq_getElem (show 0 < s.length by omega)]))
  have hn0 := heap_alloc_last w (.cells #[.int .i64 0, .slice none 0 0] 110)
  have hs0 : (w.alloc (.cells #[.int .i64 0, .slice none 0 0] 110)).heap.size = w.heap.size + 1 := by simp
  have hb0 : Below w.heap.size w (w.alloc (.cells #[.int .i64 0, .slice none 0 0] 110)) := (Below.refl _ w).alloc (Nat.le_refl _) _
  go_enter Tryz.func88, Tryz.ntmps88
  go_wp2_with fail
  generalize w.alloc (.cells #[.int .i64 0, .slice none 0 0] 110) = w0 at hn0 hs0 hb0 ⊢
  have hr0 : w0.rangeAt g o (bytesV s) := fun j v hv => (hb0.cell (p := ⟨g, o + j, none⟩) hg).trans (hr j v hv)
  refine (newreader_len g o c 64 s w0 hl (by omega) hr0).mono ?_
  rintro e w1 ⟨rb, a1, c1, rfl, hrb, hR1, hb1⟩
  have hn1 : w1.heap[w.heap.size]? = some (.cells #[.int .i64 0, .slice none 0 0] 110) := (hb1.block _ (by omega)).trans hn0
  have hbw1 : Below w.heap.size w w1 := hb0.trans (hb1.mono (by omega))
  have hs1 := hb1.size
  have hlt1 := hR1.lt
  clear hr0 hb0 hb1 hn0 hr
  obtain ⟨t, r1, e1, q1⟩ : ∃ t r1 e1, rdInt s 0 = (t, r1, e1) := ⟨_, _, _, rfl⟩
  obtain ⟨n, r2, e2, q2⟩ : ∃ n r2 e2, rdInt r1 e1 = (n, r2, e2) := ⟨_, _, _, rfl⟩
  have HP : Hid (parseOf s = (if t < 0 ∨ turns ≤ t ∨ n < 0 ∨ 4 < n then none else if (rdInts n.toNat r2 e2).2 = 0 then some (t, (rdInts n.toNat r2 e2).1) else none)) := by
    show parseOf s = _
    unfold parseOf
    simp only [q1, q2]
  have ft := rdInt_fit s 0
  have fn := rdInt_fit r1 e1
  have k1 := rint_any hR1
  rw [q1] at ft k1
  rw [q2] at fn
  simp only at ft fn k1
  go_wp2_with fail
  refine k1.mono ?_
  rintro e w2 ⟨a2, c2, rfl, hR2, hk2, _⟩
  have hs2 := hk2.size
  have hn2 : w2.heap[w.heap.size]? = some (.cells #[.int .i64 0, .slice none 0 0] 110) := (hk2.block _ (by omega) (by omega)).trans hn1
  have hbw2 : Below w.heap.size w w2 := hbw1.trans (hk2.below (by omega) (fun i e => by omega))
  have k2 := rint_any hR2
  rw [q2] at k2
  simp only at k2
  clear k1 hk2 hR1 hn1 hbw1
  go_wp2_with fail
  refine k2.mono ?_
  rintro e w3 ⟨a3, c3, rfl, hR3, hk3, _⟩
  have hs3 := hk3.size
  have hn3 : w3.heap[w.heap.size]? = some (.cells #[.int .i64 0, .slice none 0 0] 110) := (hk3.block _ (by omega) (by omega)).trans hn2
  have hbw3 : Below w.heap.size w w3 := hbw2.trans (hk3.below (by omega) (fun i e => by omega))
  clear k2 hk3 hR2 hn2 hbw2 q1 q2
  have d0 : w3.cell? ⟨w.heap.size, 0, none⟩ = some (.int .i64 0) := by rw [cell_of_row _ _ 0 _ 110 (0, 0) hn3]; rfl
  have d1 : w3.cell? ⟨w.heap.size, 1, none⟩ = some (.slice none 0 0) := by rw [cell_of_row _ _ 1 _ 110 (0, 0) hn3]; rfl
  have fz : ∀ o, w3.frozen? ⟨w.heap.size, o, none⟩ = false := fun o => by unfold World.frozen?; rw [hn3]; simp
  have fz0 := fz 0
  have fz1 := fz 1
  by_cases hbad : t < 0 ∨ 1099511627776 ≤ t ∨ n < 0 ∨ 4 < n
  · have hnone : Hid (parseOf s = none) := by show parseOf s = none; rw [HP.out]; exact if_pos hbad
    have hdec : (decide (t < 0) || decide (1099511627776 ≤ t) || decide (n < 0) || decide (4 < n)) = true := by
      rcases hbad with h | h | h | h <;> simp [h]
    have hK : Keeps (fun x => x = w.heap.size) w3 ((w3.setCell ⟨w.heap.size, 0, none⟩ (.int .i64 0)).setCell ⟨w.heap.size, 1, none⟩ (.slice none 0 0)) := ((Keeps.refl (fun x => x = w.heap.size) w3).setCell (p := ⟨w.heap.size, 0, none⟩) rfl _).setCell (p := ⟨w.heap.size, 1, none⟩) rfl _
    have hbE : Below w.heap.size w ((w3.setCell ⟨w.heap.size, 0, none⟩ (.int .i64 0)).setCell ⟨w.heap.size, 1, none⟩ (.slice none 0 0)) := hbw3.trans (hK.below (by omega) (fun i e => by omega))
    have x0 : ((w3.setCell ⟨w.heap.size, 0, none⟩ (.int .i64 0)).setCell ⟨w.heap.size, 1, none⟩ (.slice none 0 0)).cell? ⟨w.heap.size, 0, none⟩ = some (.int .i64 0) := by rw [World.cell?_setCell_other _ _ _ _ (by simp)]; exact World.cell?_setCell_same _ _ _ d0
    have x1 : ((w3.setCell ⟨w.heap.size, 0, none⟩ (.int .i64 0)).setCell ⟨w.heap.size, 1, none⟩ (.slice none 0 0)).cell? ⟨w.heap.size, 1, none⟩ = some (.slice none 0 0) := World.cell?_setCell_same _ _ _ ((World.cell?_setCell_other _ _ _ _ (by simp)).trans d1)
    clear HP hbad hK
    go_wp2_with fail
    all_goals refine bodyPost_ret (res_cell (p := 2) (q := 3) rfl _ _ w.heap.size _ _ _ rfl rfl x0 x1) rfl ?_
    all_goals exact ⟨hbE, _, _, _, _, false, rfl, fun _ => rfl, fun t ns e => by rw [hnone.out] at e; cases e⟩
  · have hF : 0 ≤ t ∧ t < 1099511627776 ∧ 0 ≤ n ∧ n ≤ 4 := by omega
    obtain ⟨m, rfl⟩ : ∃ m : Nat, n = (m : Int) := ⟨n.toNat, by omega⟩
    have HP2 : Hid (parseOf s = if (rdInts m r2 e2).2 = 0 then some (t, (rdInts m r2 e2).1) else none) := by
      show parseOf s = _
      rw [HP.out, Int.toNat_natCast]
      exact if_neg hbad
    clear HP hbad
    obtain ⟨f1, f2, _, f4⟩ := hF
    have hmk := fun W => mkI m (by omega) W
    go_wp2_with fail
    clear hmk
    have hI0 : PI w (w3.alloc (.cells (Array.replicate m (.int .i64 0)) 2)) rb w3.heap.size m 0 r2 e2 := by
      refine ⟨⟨a3, c3, hR3.keep (S := fun _ => False) ((Keeps.refl _ w3).alloc _) (fun e => e) (fun _ _ _ _ e => e)⟩, ?_, ?_, hbw3.alloc hbw3.size _⟩
      · rw [heap_alloc_last]
        simp [rdInts]
      · rw [Below.heap_alloc _ _ _ (by omega)]; exact hn3
    have hlt3 := hR3.lt
    clear d0 d1 fz fz0 fz1 hn3 hR3 hbw3
    have hnb : rb ≠ w3.heap.size ∧ rb ≠ w.heap.size ∧ w.heap.size ≠ w3.heap.size ∧ w.heap.size ≤ w3.heap.size := by omega
    generalize hnb0 : w3.heap.size = nb at hI0 hnb ⊢
    clear hnb0
    go_loopw [34] (fun s34 wr => ∃ j : Nat, j ≤ m ∧ s34 = .int .i64 j ∧ PI w wr rb nb m j r2 e2) (fun s34 _ => m - (RowKit.intOf s34).toNat)
    case atStart => exact ⟨0, Nat.zero_le _, rfl, hI0⟩
    case round =>
      obtain ⟨j, hj, rfl, hI⟩ := hrel
      clear hI0
      by_cases hlt : j < m
      · obtain ⟨a4, c4, hR⟩ := hI.rd
        have hltr := hR.lt
        go_wp2_with fail
        refine (rint_any hR).mono ?_
        rintro e w4 ⟨a5, c5, rfl, hR5, hk5, _⟩
        obtain ⟨⟨y0, y1⟩, hI2⟩ := hI.step hlt hltr (by omega) hR5 hk5
        have HI2 : Hid (PI w (w4.setCell ⟨nb, j, none⟩ (.int .i64 (rdInt (rdSt j r2 e2).1 (rdSt j r2 e2).2).1)) rb nb m (j + 1) r2 e2) := hI2
        clear hI2 hR5 hk5 hR hI
        generalize (rdInt (rdSt j r2 e2).1 (rdSt j r2 e2).2).1 = x at HI2 ⊢
        go_wp2_with fail
        go_roundw
        case rel => exact ⟨j + 1, by omega, by go_num, HI2.out⟩
        case measure => simp [RowKit.intOf]; omega
      · have hjm : j = m := by omega
        subst hjm
        obtain ⟨a4, c4, hR⟩ := hI.rd
        have hout := hI.out
        have hrow := hI.row
        have hbel := hI.bel
        have hws : w.heap.size < wr.heap.size := (Array.getElem?_eq_some_iff.1 hout).1
        have hnbs : nb < wr.heap.size := (Array.getElem?_eq_some_iff.1 hrow).1
        have d0 : wr.cell? ⟨w.heap.size, 0, none⟩ = some (.int .i64 0) := by rw [cell_of_row _ _ 0 _ 110 (0, 0) hout]; rfl
        have d1 : wr.cell? ⟨w.heap.size, 1, none⟩ = some (.slice none 0 0) := by rw [cell_of_row _ _ 1 _ 110 (0, 0) hout]; rfl
        have fz : ∀ o, wr.frozen? ⟨w.heap.size, o, none⟩ = false := fun o => by unfold World.frozen?; rw [hout]; simp
        have fz0 := fz 0
        have fz1 := fz 1
        have hlen : (rdInts j r2 e2).1.length = j := rdInts_len j r2 e2
        have hfit := rdInts_fit j r2 e2
        rw [Nat.sub_self, List.replicate_zero, List.append_nil] at hrow
        have c1 := hR.c1
        rw [rdInts_err] at HP2
        have hK : Keeps (fun x => x = w.heap.size) wr ((wr.setCell ⟨w.heap.size, 0, none⟩ (.int .i64 t)).setCell ⟨w.heap.size, 1, none⟩ (.slice (some ⟨nb, 0, none⟩) j j)) := ((Keeps.refl (fun x => x = w.heap.size) wr).setCell (p := ⟨w.heap.size, 0, none⟩) rfl _).setCell (p := ⟨w.heap.size, 1, none⟩) rfl _
        have hsE := hK.size
        have hbE : Below w.heap.size w ((wr.setCell ⟨w.heap.size, 0, none⟩ (.int .i64 t)).setCell ⟨w.heap.size, 1, none⟩ (.slice (some ⟨nb, 0, none⟩) j j)) := hbel.trans (hK.below (by omega) (fun i e => by omega))
        have x0 : ((wr.setCell ⟨w.heap.size, 0, none⟩ (.int .i64 t)).setCell ⟨w.heap.size, 1, none⟩ (.slice (some ⟨nb, 0, none⟩) j j)).cell? ⟨w.heap.size, 0, none⟩ = some (.int .i64 t) := by rw [World.cell?_setCell_other _ _ _ _ (by simp)]; exact World.cell?_setCell_same _ _ _ d0
        have x1 : ((wr.setCell ⟨w.heap.size, 0, none⟩ (.int .i64 t)).setCell ⟨w.heap.size, 1, none⟩ (.slice (some ⟨nb, 0, none⟩) j j)).cell? ⟨w.heap.size, 1, none⟩ = some (.slice (some ⟨nb, 0, none⟩) j j) := World.cell?_setCell_same _ _ _ ((World.cell?_setCell_other _ _ _ _ (by simp)).trans d1)
        have HX : Hid (IntsAt ((wr.setCell ⟨w.heap.size, 0, none⟩ (.int .i64 t)).setCell ⟨w.heap.size, 1, none⟩ (.slice (some ⟨nb, 0, none⟩) j j)) ((wr.setCell ⟨w.heap.size, 0, none⟩ (.int .i64 t)).setCell ⟨w.heap.size, 1, none⟩ (.slice (some ⟨nb, 0, none⟩) j j)).heap.size (some ⟨nb, 0, none⟩) (rdInts j r2 e2).1.length (rdInts j r2 e2).1) := by
          refine ⟨rfl, hfit, Or.inr ⟨nb, 0, rfl, by omega, ?_⟩⟩
          exact range_of_row ((hK.block nb hnbs (fun x => by omega)).trans hrow) _ rfl
        clear hI hout hrow hbel hK hR fz hfit
        go_wp2_with fail
        refine (rerr_cell rb _ wr c1).mono ?_
        rintro e w5 ⟨rfl, hw5⟩
        subst hw5
        clear c1
        rw [hlen] at HX
        generalize (rdInts j r2 e2).1 = A at HP2 hlen HX
        generalize (rdSt j r2 e2).2 = er at HP2 ⊢
        by_cases her : er = 0
        · subst her
          have hP : Hid (parseOf s = some (t, A)) := by show parseOf s = _; rw [HP2.out, if_pos rfl]
          clear HP2
          go_wp2_with fail
          refine bodyPost_ret (res_cell (p := 2) (q := 3) rfl _ _ w.heap.size _ _ _ rfl rfl x0 x1) rfl ?_
          refine ⟨hbE, _, _, _, _, true, rfl, fun e => (by rw [hP.out] at e; cases e), fun t' ns' e => ?_⟩
          rw [hP.out] at e
          cases e
          exact ⟨rfl, rfl, hlen.symm, by rw [hlen]; exact HX.out, fun b o e => by cases e; omega⟩
        · have hP : Hid (parseOf s = none) := by show parseOf s = _; rw [HP2.out, if_neg her]
          have her' : (er == 0) = false := by simp [her]
          clear HP2 her
          go_wp2_with fail
          refine bodyPost_ret (res_cell (p := 2) (q := 3) rfl _ _ w.heap.size _ _ _ rfl rfl x0 x1) rfl ?_
          exact ⟨hbE, _, _, _, _, false, rfl, fun _ => rfl, fun t' ns' e => by rw [hP.out] at e; cases e⟩
end Go.Proofs.YtlmdeafmlommeaaGreatDoor
