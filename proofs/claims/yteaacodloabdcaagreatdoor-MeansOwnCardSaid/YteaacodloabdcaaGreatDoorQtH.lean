import Derived.Test.YteaacodloabdcaaGreatDoorQtE
import Derived.Test.YteaacodloabdcaaGreatDoorWlG
import Derived.Test.YteaacodloabdcaaGreatDoorBsM
import Derived.Test.YteaacodloabdcaaGreatDoorDevI
import Derived.Test.YteaacodloabdcaaGreatDoorVcD
import Derived.Test.YteaacodloabdcaaGreatDoorQvA
namespace Go.Proofs.YteaacodloabdcaaGreatDoor
open Go.RowKit Go.Maps

theorem mkI32 (n : Nat) (h : n ≤ 1000) (w : World) : (Instr.makeSlice 22 (.int .i64 n) (.int .i64 n)).run Tryz.prog w = .ok (.slice (some ⟨w.heap.size, 0, none⟩) n n) (w.alloc (.cells (vrow n) 21)) := by
  have hx := infoI32
  cases hq : Tryz.prog.info? 21 with
  | none => rw [hq] at hx; cases hx
  | some i =>
    rw [hq] at hx
    simp only [Option.map_some, Option.some.injEq, Prod.mk.injEq] at hx
    obtain ⟨h1, h2, h3⟩ := hx
    rw [run_make w 22 21 i _ Tryz.underlying22 hq h1 .i64 .i64 n n (by omega) (by omega) (by rw [h3]; omega) (by omega)]
    have e : madeCells (Value.int .i32 0).cells ((n : Int).toNat * i.size) = vrow n := by
      rw [h2]
      show madeCells #[.int .i32 0] (n * 1) = _
      unfold madeCells vrow
      apply Array.ext
      · simp
      · intro j hj1 hj2
        simp [Nat.mod_one]
    rw [e]
    simp
theorem TwoQ.congr {w wr : World} {gl gh d : Nat} {fl fh fl' fh' : Nat → Int} (h : TwoQ w wr gl gh d fl fh) (h1 : ∀ i, i < d → fl i = fl' i) (h2 : ∀ i, i < d → fh i = fh' i) : TwoQ w wr gl gh d fl' fh' := by
  obtain ⟨B, b1, b2, b3⟩ := h.l
  obtain ⟨C, c1, c2, c3⟩ := h.h
  exact ⟨⟨B, b1, b2, fun i hi => (b3 i hi).trans (h1 i hi)⟩, ⟨C, c1, c2, fun i hi => (c3 i hi).trans (h2 i hi)⟩, h.ne, h.l0, h.h0, h.u⟩
theorem TwoQ.new (w : World) (d : Nat) (hd : d ≤ 1000) : TwoQ w ((w.alloc (.cells (vrow d) 21)).alloc (.cells (vrow d) 21)) w.heap.size (w.heap.size + 1) d (fun _ => 0) (fun _ => 0) := by
  have h1 := new_vec d hd w
  have h2 := new_vec d hd (w.alloc (.cells (vrow d) 21))
  have hs : (w.alloc (.cells (vrow d) 21)).heap.size = w.heap.size + 1 := by simp
  rw [hs] at h2
  have hb1 : Below w.heap.size w (w.alloc (.cells (vrow d) 21)) := (Below.refl _ w).alloc (Nat.le_refl _) _
  have hbA : Below (w.alloc (.cells (vrow d) 21)).heap.size (w.alloc (.cells (vrow d) 21)) ((w.alloc (.cells (vrow d) 21)).alloc (.cells (vrow d) 21)) := (Below.refl _ _).alloc (Nat.le_refl _) _
  exact ⟨⟨_, h1.below hbA, by simp, fun i hi => by simp [List.getD, hi]⟩, ⟨_, h2, by simp, fun i hi => by simp [List.getD, hi]⟩, by omega, Nat.le_refl _, by omega, hb1.trans (hbA.mono (by rw [hs]; omega))⟩
theorem TwoQ.swap {w wr : World} {gl gh d : Nat} {fl fh : Nat → Int} (h : TwoQ w wr gl gh d fl fh) : TwoQ w wr gh gl d fh fl := ⟨h.h, h.l, Ne.symm h.ne, h.h0, h.l0, h.u⟩
/-- Those that count. -/
def goodL (d : Int) (VS : List (List Int)) : List (List Int) := VS.filter (fun v => mayB v d)
theorem goodL_snoc (d : Int) (VS : List (List Int)) (i : Nat) (h : i < VS.length) : goodL d (VS.take (i + 1)) = goodL d (VS.take i) ++ (if mayB (VS.getD i []) d then [VS.getD i []] else []) := by
  unfold goodL
  rw [List.take_succ_eq_append_getElem h, List.filter_append]
  congr 1
  have : VS.getD i [] = VS[i] := by simp [List.getD, h]
  rw [this]
  cases hq : mayB VS[i] d <;> simp [hq]
theorem upto_step {f g : Nat → Int} {i k : Nat} {x : Int} (h : x = f k) : (if i = k then x else (if i < k then f i else g i)) = if i < k + 1 then f i else g i := by
  by_cases e : i = k
  · subst e
    rw [if_pos rfl, if_pos (by omega), h]
  · rw [if_neg e]
    by_cases h2 : i < k
    · rw [if_pos h2, if_pos (by omega)]
    · rw [if_neg h2, if_neg (by omega)]
theorem mayB_yes {A : List Int} {d : Int} (h : mayB A d = true) : (A.length : Int) = d ∧ ∀ j, j < A.length → -1048576 ≤ A.getD j 0 ∧ A.getD j 0 ≤ 1048576 := by
  refine ⟨?_, fun j hj => ?_⟩
  · by_cases q : 1 ≤ d ∧ d ≤ 8 ∧ (A.length : Int) = d
    · exact q.2.2
    · rw [mayB_dim q] at h; cases h
  · by_cases q : -1048576 ≤ A.getD j 0 ∧ A.getD j 0 ≤ 1048576
    · exact q
    · rw [mayB_bad hj q] at h; cases h
set_option maxRecDepth 100000 in
set_option maxHeartbeats 1000000 in
theorem ends_at {w : World} {a : Option Addr} {m c : Nat} {VS : List (List Int)} (h : VecsAt w a m c VS) (hm : m ≤ 1000000000) (d : Nat) (hd : 1 ≤ d ∧ d ≤ 8) :
    Calls Tryz.prog 61 #[.int .i64 d, .slice a m c] w fun e w' => ∃ gl gh, e = .returned (.tuple #[.slice (some ⟨gl, 0, none⟩) d d, .slice (some ⟨gh, 0, none⟩) d d]) ∧ TwoQ w w' gl gh d (loZ (goodL d VS)) (hiZ (goodL d VS)) := by
  have HV : Hid (VecsAt w a m c VS) := h
  have hmk := fun w => mkI32 d (by omega) w
  clear h
  go_enter Tryz.func61, Tryz.ntmps61
  go_wp2_with fail
  go_region
  · have HI0 : Hid (TwoQ w ((w.alloc (.cells (vrow d) 21)).alloc (.cells (vrow d) 21)).drew w.heap.size (w.heap.size + 1) d (loZ (goodL d (VS.take 0))) (hiZ (goodL d (VS.take 0)))) := ((TwoQ.new w d (by omega)).drew).congr (fun i hi => rfl) (fun i hi => rfl)
    generalize ((w.alloc (.cells (vrow d) 21)).alloc (.cells (vrow d) 21)).drew = w1 at *
    generalize w.heap.size + 1 = gh at *
    generalize w.heap.size = gl at *
    go_wp2_with fail
    go_loopw [6, 17] (fun s6 s17 wr => ∃ i : Nat, i ≤ m ∧ s17 = .int .i64 i ∧ s6 = .bool (!(goodL d (VS.take i)).isEmpty) ∧ Hid (TwoQ w wr gl gh d (loZ (goodL d (VS.take i))) (hiZ (goodL d (VS.take i))))) (fun _ s17 _ => m - (RowKit.intOf s17).toNat)
    case atStart => exact ⟨0, Nat.zero_le _, rfl, rfl, HI0⟩
    case round =>
      clear HI0 hmk
      obtain ⟨i, hi, rfl, rfl, HI⟩ := hrel
      by_cases hlt : i < m
      · obtain ⟨b, o, p, n, cc, rfl, hb, hc, hn, hv⟩ := HV.out.at_ i hlt
        have hc1 := (HI.out.u.cell (p := ⟨b, o + i, none⟩) hb).trans hc
        have HG : Hid (goodL d (VS.take (i + 1)) = goodL d (VS.take i) ++ (if mayB (VS.getD i []) d then [VS.getD i []] else [])) := goodL_snoc d VS i (by rw [HV.out.len]; exact hlt)
        have HVw : Hid (VecAt w p n cc (VS.getD i [])) := hv
        clear hb hc hv
        generalize VS.getD i [] = V at *
        generalize goodL d (VS.take i) = G at *
        go_wp2_with fail
        refine (may_at (HVw.out.all HI.out.u) d).mono ?_
        rintro e w2 ⟨rfl, rfl⟩
        by_cases hmay : mayB V d = true
        · obtain ⟨hVl0, hVf⟩ := mayB_yes hmay
          have hnd : n = d := by have := HVw.out.len; omega
          have hVl : V.length = d := by omega
          subst hnd
          have HG2 : Hid (goodL n (VS.take (i + 1)) = G ++ [V]) := by have := HG.out; rwa [if_pos hmay] at this
          have HVl : Hid (V.length = n ∧ ∀ k, k < n → -2147483648 ≤ V.getD k 0 ∧ V.getD k 0 ≤ 2147483647) := ⟨hVl, fun k hk => by
            obtain ⟨_, _, _, _, _, q1, q2⟩ := HVw.out.cell k hk
            exact ⟨q1, q2⟩⟩
          clear HG hVl hVl0 hVf
          rw [hmay]
          clear hmay
          cases hG : G.isEmpty with
          | true =>
            have HE : Hid (G = []) := List.isEmpty_iff.1 hG
            clear hG
            have HT1 : Hid (TwoQ w (w2.setCells gl 0 (V.map (Value.int .i32))) gl gh n (fun i => V.getD i 0) (hiZ G)) := HI.out.copyl V HVl.out.1
            have HT2 : Hid (TwoQ w ((w2.setCells gl 0 (V.map (Value.int .i32))).setCells gh 0 (V.map (Value.int .i32))) gl gh n (fun i => V.getD i 0) (fun i => V.getD i 0)) := HT1.out.copyh V HVl.out.1
            have hk1 : (Builtin.copy_ #[22, 23] 3 #[.slice (some ⟨gl, 0, none⟩) n n, .slice p n cc]).run Tryz.prog w2 = .ok (goInt n) (w2.setCells gl 0 (V.map (Value.int .i32))) := by
              obtain ⟨B, q1, q2, _⟩ := HI.out.l
              exact run_copy_vec q1 q2 (HVw.out.all HI.out.u) (by omega)
            have hk2 : (Builtin.copy_ #[22, 23] 3 #[.slice (some ⟨gh, 0, none⟩) n n, .slice p n cc]).run Tryz.prog (w2.setCells gl 0 (V.map (Value.int .i32))) = .ok (goInt n) ((w2.setCells gl 0 (V.map (Value.int .i32))).setCells gh 0 (V.map (Value.int .i32))) := by
              obtain ⟨B, q1, q2, _⟩ := HT1.out.h
              exact run_copy_vec q1 q2 (HVw.out.all HT1.out.u) (by omega)
            clear HT1 HI
            have HF : Hid (∀ k, V.getD k 0 = loZ (G ++ [V]) k ∧ V.getD k 0 = hiZ (G ++ [V]) k) := fun k => by
              rw [HE.out]
              exact ⟨rfl, rfl⟩
            have HT : Hid (TwoQ w ((w2.setCells gl 0 (V.map (Value.int .i32))).setCells gh 0 (V.map (Value.int .i32))) gl gh n (fun i => if i < 0 then loZ (G ++ [V]) i else V.getD i 0) (fun i => if i < 0 then hiZ (G ++ [V]) i else V.getD i 0)) := HT2.out.congr (fun i _ => (if_neg (by omega)).symm) (fun i _ => (if_neg (by omega)).symm)
            have HE2 := HE
            clear HT2 HE
            go_wp2_with fail
            clear hk1 hk2
            generalize (w2.setCells gl 0 (V.map (Value.int .i32))).setCells gh 0 (V.map (Value.int .i32)) = w3 at *
            go_loopw [35] (fun s35 wr => ∃ k : Nat, k ≤ n ∧ s35 = .int .i64 k ∧ Hid (TwoQ w wr gl gh n (fun i => if i < k then loZ (G ++ [V]) i else V.getD i 0) (fun i => if i < k then hiZ (G ++ [V]) i else V.getD i 0))) (fun s35 _ => n - (RowKit.intOf s35).toNat)
            case atStart => exact ⟨0, Nat.zero_le _, rfl, HT⟩
            case round =>
              clear HT
              obtain ⟨k, hk, rfl, HK⟩ := hrel
              by_cases hkn : k < n
              · have q0 := HK.out.cells k hkn
                simp only [Nat.lt_irrefl, if_false] at q0
                obtain ⟨q1, q2, q3, q4⟩ := q0
                obtain ⟨vb, vo, rfl, hvb, e1, y1, y2⟩ := HVw.out.cell k hkn
                have e1 := (HK.out.u.cell (p := ⟨vb, vo + k, none⟩) hvb).trans e1
                have ne := HK.out.ne
                have ne2 : gh ≠ gl := fun e => ne e.symm
                have HF1 := HF.out k
                have HN1 : Hid (TwoQ w ((wr.setCell ⟨gl, k, none⟩ (.int .i32 (V.getD k 0))).setCell ⟨gh, k, none⟩ (.int .i32 (V.getD k 0))).drew gl gh n (fun i => if i < k + 1 then loZ (G ++ [V]) i else V.getD i 0) (fun i => if i < k + 1 then hiZ (G ++ [V]) i else V.getD i 0)) := (((HK.out.setl k hkn _).seth k hkn _).drew).congr (fun i hi => upto_step (f := loZ (G ++ [V])) (g := fun i => V.getD i 0) HF1.1) (fun i hi => upto_step (f := hiZ (G ++ [V])) (g := fun i => V.getD i 0) HF1.2)
                have HN2 : Hid (TwoQ w ((wr.setCell ⟨gh, k, none⟩ (.int .i32 (V.getD k 0))).setCell ⟨gl, k, none⟩ (.int .i32 (V.getD k 0))).drew gl gh n (fun i => if i < k + 1 then loZ (G ++ [V]) i else V.getD i 0) (fun i => if i < k + 1 then hiZ (G ++ [V]) i else V.getD i 0)) := (((HK.out.seth k hkn _).setl k hkn _).drew).congr (fun i hi => upto_step (f := loZ (G ++ [V])) (g := fun i => V.getD i 0) HF1.1) (fun i hi => upto_step (f := hiZ (G ++ [V])) (g := fun i => V.getD i 0) HF1.2)
                have hn1 : gl ≠ vb := by have := HK.out.l0; omega
                have hn2 : gh ≠ vb := by have := HK.out.h0; omega
                clear HK HF HF1 hvb HVw HVl HE2 y1 y2
                generalize V.getD k 0 = y at *
                go_wp2_with fail
                go_region
                all_goals go_wp2_with fail
                all_goals (first | exact ⟨⟨k + 1, by omega, rfl, HN1⟩, by simp [RowKit.intOf]; omega⟩ | exact ⟨⟨k + 1, by omega, rfl, HN2⟩, by simp [RowKit.intOf]; omega⟩)
              · obtain rfl : k = n := by omega
                have HT2 : Hid (TwoQ w wr gl gh k (loZ (goodL k (VS.take (i + 1)))) (hiZ (goodL k (VS.take (i + 1))))) := by
                  rw [HG2.out]
                  exact HK.out.congr (fun i hi => if_pos hi) (fun i hi => if_pos hi)
                have HNE : Hid ((!(goodL k (VS.take (i + 1))).isEmpty) = true) := by
                  show _ = _
                  rw [HG2.out]; simp
                clear HK
                go_wp2_with fail
                exact ⟨⟨i + 1, by omega, rfl, by rw [HNE.out], HT2⟩, by simp [RowKit.intOf]; omega⟩
          | false =>
            have HE2 : Hid (G ≠ []) := fun e => by rw [e] at hG; cases hG
            clear hG
            have HF : Hid (∀ k, min (loZ G k) (V.getD k 0) = loZ (G ++ [V]) k ∧ max (hiZ G k) (V.getD k 0) = hiZ (G ++ [V]) k) := fun k => by
              rw [loZ_snoc, hiZ_snoc, if_neg HE2.out, if_neg HE2.out]
              exact ⟨rfl, rfl⟩
            have HT : Hid (TwoQ w w2 gl gh n (fun i => if i < 0 then loZ (G ++ [V]) i else loZ G i) (fun i => if i < 0 then hiZ (G ++ [V]) i else hiZ G i)) := HI.out.congr (fun i _ => (if_neg (by omega)).symm) (fun i _ => (if_neg (by omega)).symm)
            clear HI
            go_wp2_with fail
            go_loopw [35] (fun s35 wr => ∃ k : Nat, k ≤ n ∧ s35 = .int .i64 k ∧ Hid (TwoQ w wr gl gh n (fun i => if i < k then loZ (G ++ [V]) i else loZ G i) (fun i => if i < k then hiZ (G ++ [V]) i else hiZ G i))) (fun s35 _ => n - (RowKit.intOf s35).toNat)
            case atStart => exact ⟨0, Nat.zero_le _, rfl, HT⟩
            case round =>
              clear HT
              obtain ⟨k, hk, rfl, HK⟩ := hrel
              by_cases hkn : k < n
              · have q0 := HK.out.cells k hkn
                simp only [Nat.lt_irrefl, if_false] at q0
                obtain ⟨q1, q2, q3, q4⟩ := q0
                obtain ⟨vb, vo, rfl, hvb, e1, y1, y2⟩ := HVw.out.cell k hkn
                have e1 := (HK.out.u.cell (p := ⟨vb, vo + k, none⟩) hvb).trans e1
                have ne := HK.out.ne
                have ne2 : gh ≠ gl := fun e => ne e.symm
                have HF1 := HF.out k
                have HN1 : Hid (TwoQ w ((wr.setCell ⟨gl, k, none⟩ (.int .i32 (min (loZ G k) (V.getD k 0)))).setCell ⟨gh, k, none⟩ (.int .i32 (max (hiZ G k) (V.getD k 0)))).drew gl gh n (fun i => if i < k + 1 then loZ (G ++ [V]) i else loZ G i) (fun i => if i < k + 1 then hiZ (G ++ [V]) i else hiZ G i)) := (((HK.out.setl k hkn _).seth k hkn _).drew).congr (fun i hi => upto_step (f := loZ (G ++ [V])) (g := loZ G) HF1.1) (fun i hi => upto_step (f := hiZ (G ++ [V])) (g := hiZ G) HF1.2)
                have HN2 : Hid (TwoQ w ((wr.setCell ⟨gh, k, none⟩ (.int .i32 (max (hiZ G k) (V.getD k 0)))).setCell ⟨gl, k, none⟩ (.int .i32 (min (loZ G k) (V.getD k 0)))).drew gl gh n (fun i => if i < k + 1 then loZ (G ++ [V]) i else loZ G i) (fun i => if i < k + 1 then hiZ (G ++ [V]) i else hiZ G i)) := (((HK.out.seth k hkn _).setl k hkn _).drew).congr (fun i hi => upto_step (f := loZ (G ++ [V])) (g := loZ G) HF1.1) (fun i hi => upto_step (f := hiZ (G ++ [V])) (g := hiZ G) HF1.2)
                have hn1 : gl ≠ vb := by have := HK.out.l0; omega
                have hn2 : gh ≠ vb := by have := HK.out.h0; omega
                clear HK HF HF1 hvb HVw HVl HE2 y1 y2
                generalize V.getD k 0 = y at *
                generalize loZ G k = x1 at *
                generalize hiZ G k = x2 at *
                go_wp2_with fail
                go_region
                all_goals go_wp2_with fail
                all_goals (first | exact ⟨⟨k + 1, by omega, rfl, HN1⟩, by simp [RowKit.intOf]; omega⟩ | exact ⟨⟨k + 1, by omega, rfl, HN2⟩, by simp [RowKit.intOf]; omega⟩)
              · obtain rfl : k = n := by omega
                have HT2 : Hid (TwoQ w wr gl gh k (loZ (goodL k (VS.take (i + 1)))) (hiZ (goodL k (VS.take (i + 1))))) := by
                  rw [HG2.out]
                  exact HK.out.congr (fun i hi => if_pos hi) (fun i hi => if_pos hi)
                have HNE : Hid ((!(goodL k (VS.take (i + 1))).isEmpty) = true) := by
                  show _ = _
                  rw [HG2.out]; simp
                clear HK
                go_wp2_with fail
                exact ⟨⟨i + 1, by omega, rfl, by rw [HNE.out], HT2⟩, by simp [RowKit.intOf]; omega⟩
        · have HG2 : Hid (goodL d (VS.take (i + 1)) = G) := by have := HG.out; rwa [if_neg hmay, List.append_nil] at this
          rw [show mayB V d = false by simpa using hmay]
          clear hmay HG
          go_wp2_with fail
          exact ⟨⟨i + 1, by omega, rfl, by rw [HG2.out], by rw [HG2.out]; exact HI⟩, by simp [RowKit.intOf]; omega⟩
      · obtain rfl : i = m := by omega
        have hE : VS.take i = VS := List.take_of_length_le (by rw [HV.out.len]; exact Nat.le_refl _)
        rw [hE] at HI
        clear hE
        go_wp2_with fail
        refine bodyPost_ret (results_tmp2 rfl _ _ _) rfl ?_
        exact ⟨gl, gh, rfl, HI.out⟩
  · have HI0 : Hid (TwoQ w ((w.alloc (.cells (vrow d) 21)).alloc (.cells (vrow d) 21)).drew (w.heap.size + 1) w.heap.size d (loZ (goodL d (VS.take 0))) (hiZ (goodL d (VS.take 0)))) := ((TwoQ.new w d (by omega)).swap.drew).congr (fun i hi => rfl) (fun i hi => rfl)
    generalize ((w.alloc (.cells (vrow d) 21)).alloc (.cells (vrow d) 21)).drew = w1 at *
    generalize w.heap.size + 1 = gl at *
    generalize w.heap.size = gh at *
    go_wp2_with fail
    go_loopw [6, 17] (fun s6 s17 wr => ∃ i : Nat, i ≤ m ∧ s17 = .int .i64 i ∧ s6 = .bool (!(goodL d (VS.take i)).isEmpty) ∧ Hid (TwoQ w wr gl gh d (loZ (goodL d (VS.take i))) (hiZ (goodL d (VS.take i))))) (fun _ s17 _ => m - (RowKit.intOf s17).toNat)
    case atStart => exact ⟨0, Nat.zero_le _, rfl, rfl, HI0⟩
    case round =>
      clear HI0 hmk
      obtain ⟨i, hi, rfl, rfl, HI⟩ := hrel
      by_cases hlt : i < m
      · obtain ⟨b, o, p, n, cc, rfl, hb, hc, hn, hv⟩ := HV.out.at_ i hlt
        have hc1 := (HI.out.u.cell (p := ⟨b, o + i, none⟩) hb).trans hc
        have HG : Hid (goodL d (VS.take (i + 1)) = goodL d (VS.take i) ++ (if mayB (VS.getD i []) d then [VS.getD i []] else [])) := goodL_snoc d VS i (by rw [HV.out.len]; exact hlt)
        have HVw : Hid (VecAt w p n cc (VS.getD i [])) := hv
        clear hb hc hv
        generalize VS.getD i [] = V at *
        generalize goodL d (VS.take i) = G at *
        go_wp2_with fail
        refine (may_at (HVw.out.all HI.out.u) d).mono ?_
        rintro e w2 ⟨rfl, rfl⟩
        by_cases hmay : mayB V d = true
        · obtain ⟨hVl0, hVf⟩ := mayB_yes hmay
          have hnd : n = d := by have := HVw.out.len; omega
          have hVl : V.length = d := by omega
          subst hnd
          have HG2 : Hid (goodL n (VS.take (i + 1)) = G ++ [V]) := by have := HG.out; rwa [if_pos hmay] at this
          have HVl : Hid (V.length = n ∧ ∀ k, k < n → -2147483648 ≤ V.getD k 0 ∧ V.getD k 0 ≤ 2147483647) := ⟨hVl, fun k hk => by
            obtain ⟨_, _, _, _, _, q1, q2⟩ := HVw.out.cell k hk
            exact ⟨q1, q2⟩⟩
          clear HG hVl hVl0 hVf
          rw [hmay]
          clear hmay
          cases hG : G.isEmpty with
          | true =>
            have HE : Hid (G = []) := List.isEmpty_iff.1 hG
            clear hG
            have HT1 : Hid (TwoQ w (w2.setCells gl 0 (V.map (Value.int .i32))) gl gh n (fun i => V.getD i 0) (hiZ G)) := HI.out.copyl V HVl.out.1
            have HT2 : Hid (TwoQ w ((w2.setCells gl 0 (V.map (Value.int .i32))).setCells gh 0 (V.map (Value.int .i32))) gl gh n (fun i => V.getD i 0) (fun i => V.getD i 0)) := HT1.out.copyh V HVl.out.1
            have hk1 : (Builtin.copy_ #[22, 23] 3 #[.slice (some ⟨gl, 0, none⟩) n n, .slice p n cc]).run Tryz.prog w2 = .ok (goInt n) (w2.setCells gl 0 (V.map (Value.int .i32))) := by
              obtain ⟨B, q1, q2, _⟩ := HI.out.l
              exact run_copy_vec q1 q2 (HVw.out.all HI.out.u) (by omega)
            have hk2 : (Builtin.copy_ #[22, 23] 3 #[.slice (some ⟨gh, 0, none⟩) n n, .slice p n cc]).run Tryz.prog (w2.setCells gl 0 (V.map (Value.int .i32))) = .ok (goInt n) ((w2.setCells gl 0 (V.map (Value.int .i32))).setCells gh 0 (V.map (Value.int .i32))) := by
              obtain ⟨B, q1, q2, _⟩ := HT1.out.h
              exact run_copy_vec q1 q2 (HVw.out.all HT1.out.u) (by omega)
            clear HT1 HI
            have HF : Hid (∀ k, V.getD k 0 = loZ (G ++ [V]) k ∧ V.getD k 0 = hiZ (G ++ [V]) k) := fun k => by
              rw [HE.out]
              exact ⟨rfl, rfl⟩
            have HT : Hid (TwoQ w ((w2.setCells gl 0 (V.map (Value.int .i32))).setCells gh 0 (V.map (Value.int .i32))) gl gh n (fun i => if i < 0 then loZ (G ++ [V]) i else V.getD i 0) (fun i => if i < 0 then hiZ (G ++ [V]) i else V.getD i 0)) := HT2.out.congr (fun i _ => (if_neg (by omega)).symm) (fun i _ => (if_neg (by omega)).symm)
            have HE2 := HE
            clear HT2 HE
            go_wp2_with fail
            clear hk1 hk2
            generalize (w2.setCells gl 0 (V.map (Value.int .i32))).setCells gh 0 (V.map (Value.int .i32)) = w3 at *
            go_loopw [35] (fun s35 wr => ∃ k : Nat, k ≤ n ∧ s35 = .int .i64 k ∧ Hid (TwoQ w wr gl gh n (fun i => if i < k then loZ (G ++ [V]) i else V.getD i 0) (fun i => if i < k then hiZ (G ++ [V]) i else V.getD i 0))) (fun s35 _ => n - (RowKit.intOf s35).toNat)
            case atStart => exact ⟨0, Nat.zero_le _, rfl, HT⟩
            case round =>
              clear HT
              obtain ⟨k, hk, rfl, HK⟩ := hrel
              by_cases hkn : k < n
              · have q0 := HK.out.cells k hkn
                simp only [Nat.lt_irrefl, if_false] at q0
                obtain ⟨q1, q2, q3, q4⟩ := q0
                obtain ⟨vb, vo, rfl, hvb, e1, y1, y2⟩ := HVw.out.cell k hkn
                have e1 := (HK.out.u.cell (p := ⟨vb, vo + k, none⟩) hvb).trans e1
                have ne := HK.out.ne
                have ne2 : gh ≠ gl := fun e => ne e.symm
                have HF1 := HF.out k
                have HN1 : Hid (TwoQ w ((wr.setCell ⟨gl, k, none⟩ (.int .i32 (V.getD k 0))).setCell ⟨gh, k, none⟩ (.int .i32 (V.getD k 0))).drew gl gh n (fun i => if i < k + 1 then loZ (G ++ [V]) i else V.getD i 0) (fun i => if i < k + 1 then hiZ (G ++ [V]) i else V.getD i 0)) := (((HK.out.setl k hkn _).seth k hkn _).drew).congr (fun i hi => upto_step (f := loZ (G ++ [V])) (g := fun i => V.getD i 0) HF1.1) (fun i hi => upto_step (f := hiZ (G ++ [V])) (g := fun i => V.getD i 0) HF1.2)
                have HN2 : Hid (TwoQ w ((wr.setCell ⟨gh, k, none⟩ (.int .i32 (V.getD k 0))).setCell ⟨gl, k, none⟩ (.int .i32 (V.getD k 0))).drew gl gh n (fun i => if i < k + 1 then loZ (G ++ [V]) i else V.getD i 0) (fun i => if i < k + 1 then hiZ (G ++ [V]) i else V.getD i 0)) := (((HK.out.seth k hkn _).setl k hkn _).drew).congr (fun i hi => upto_step (f := loZ (G ++ [V])) (g := fun i => V.getD i 0) HF1.1) (fun i hi => upto_step (f := hiZ (G ++ [V])) (g := fun i => V.getD i 0) HF1.2)
                have hn1 : gl ≠ vb := by have := HK.out.l0; omega
                have hn2 : gh ≠ vb := by have := HK.out.h0; omega
                clear HK HF HF1 hvb HVw HVl HE2 y1 y2
                generalize V.getD k 0 = y at *
                go_wp2_with fail
                go_region
                all_goals go_wp2_with fail
                all_goals (first | exact ⟨⟨k + 1, by omega, rfl, HN1⟩, by simp [RowKit.intOf]; omega⟩ | exact ⟨⟨k + 1, by omega, rfl, HN2⟩, by simp [RowKit.intOf]; omega⟩)
              · obtain rfl : k = n := by omega
                have HT2 : Hid (TwoQ w wr gl gh k (loZ (goodL k (VS.take (i + 1)))) (hiZ (goodL k (VS.take (i + 1))))) := by
                  rw [HG2.out]
                  exact HK.out.congr (fun i hi => if_pos hi) (fun i hi => if_pos hi)
                have HNE : Hid ((!(goodL k (VS.take (i + 1))).isEmpty) = true) := by
                  show _ = _
                  rw [HG2.out]; simp
                clear HK
                go_wp2_with fail
                exact ⟨⟨i + 1, by omega, rfl, by rw [HNE.out], HT2⟩, by simp [RowKit.intOf]; omega⟩
          | false =>
            have HE2 : Hid (G ≠ []) := fun e => by rw [e] at hG; cases hG
            clear hG
            have HF : Hid (∀ k, min (loZ G k) (V.getD k 0) = loZ (G ++ [V]) k ∧ max (hiZ G k) (V.getD k 0) = hiZ (G ++ [V]) k) := fun k => by
              rw [loZ_snoc, hiZ_snoc, if_neg HE2.out, if_neg HE2.out]
              exact ⟨rfl, rfl⟩
            have HT : Hid (TwoQ w w2 gl gh n (fun i => if i < 0 then loZ (G ++ [V]) i else loZ G i) (fun i => if i < 0 then hiZ (G ++ [V]) i else hiZ G i)) := HI.out.congr (fun i _ => (if_neg (by omega)).symm) (fun i _ => (if_neg (by omega)).symm)
            clear HI
            go_wp2_with fail
            go_loopw [35] (fun s35 wr => ∃ k : Nat, k ≤ n ∧ s35 = .int .i64 k ∧ Hid (TwoQ w wr gl gh n (fun i => if i < k then loZ (G ++ [V]) i else loZ G i) (fun i => if i < k then hiZ (G ++ [V]) i else hiZ G i))) (fun s35 _ => n - (RowKit.intOf s35).toNat)
            case atStart => exact ⟨0, Nat.zero_le _, rfl, HT⟩
            case round =>
              clear HT
              obtain ⟨k, hk, rfl, HK⟩ := hrel
              by_cases hkn : k < n
              · have q0 := HK.out.cells k hkn
                simp only [Nat.lt_irrefl, if_false] at q0
                obtain ⟨q1, q2, q3, q4⟩ := q0
                obtain ⟨vb, vo, rfl, hvb, e1, y1, y2⟩ := HVw.out.cell k hkn
                have e1 := (HK.out.u.cell (p := ⟨vb, vo + k, none⟩) hvb).trans e1
                have ne := HK.out.ne
                have ne2 : gh ≠ gl := fun e => ne e.symm
                have HF1 := HF.out k
                have HN1 : Hid (TwoQ w ((wr.setCell ⟨gl, k, none⟩ (.int .i32 (min (loZ G k) (V.getD k 0)))).setCell ⟨gh, k, none⟩ (.int .i32 (max (hiZ G k) (V.getD k 0)))).drew gl gh n (fun i => if i < k + 1 then loZ (G ++ [V]) i else loZ G i) (fun i => if i < k + 1 then hiZ (G ++ [V]) i else hiZ G i)) := (((HK.out.setl k hkn _).seth k hkn _).drew).congr (fun i hi => upto_step (f := loZ (G ++ [V])) (g := loZ G) HF1.1) (fun i hi => upto_step (f := hiZ (G ++ [V])) (g := hiZ G) HF1.2)
                have HN2 : Hid (TwoQ w ((wr.setCell ⟨gh, k, none⟩ (.int .i32 (max (hiZ G k) (V.getD k 0)))).setCell ⟨gl, k, none⟩ (.int .i32 (min (loZ G k) (V.getD k 0)))).drew gl gh n (fun i => if i < k + 1 then loZ (G ++ [V]) i else loZ G i) (fun i => if i < k + 1 then hiZ (G ++ [V]) i else hiZ G i)) := (((HK.out.seth k hkn _).setl k hkn _).drew).congr (fun i hi => upto_step (f := loZ (G ++ [V])) (g := loZ G) HF1.1) (fun i hi => upto_step (f := hiZ (G ++ [V])) (g := hiZ G) HF1.2)
                have hn1 : gl ≠ vb := by have := HK.out.l0; omega
                have hn2 : gh ≠ vb := by have := HK.out.h0; omega
                clear HK HF HF1 hvb HVw HVl HE2 y1 y2
                generalize V.getD k 0 = y at *
                generalize loZ G k = x1 at *
                generalize hiZ G k = x2 at *
                go_wp2_with fail
                go_region
                all_goals go_wp2_with fail
                all_goals (first | exact ⟨⟨k + 1, by omega, rfl, HN1⟩, by simp [RowKit.intOf]; omega⟩ | exact ⟨⟨k + 1, by omega, rfl, HN2⟩, by simp [RowKit.intOf]; omega⟩)
              · obtain rfl : k = n := by omega
                have HT2 : Hid (TwoQ w wr gl gh k (loZ (goodL k (VS.take (i + 1)))) (hiZ (goodL k (VS.take (i + 1))))) := by
                  rw [HG2.out]
                  exact HK.out.congr (fun i hi => if_pos hi) (fun i hi => if_pos hi)
                have HNE : Hid ((!(goodL k (VS.take (i + 1))).isEmpty) = true) := by
                  show _ = _
                  rw [HG2.out]; simp
                clear HK
                go_wp2_with fail
                exact ⟨⟨i + 1, by omega, rfl, by rw [HNE.out], HT2⟩, by simp [RowKit.intOf]; omega⟩
        · have HG2 : Hid (goodL d (VS.take (i + 1)) = G) := by have := HG.out; rwa [if_neg hmay, List.append_nil] at this
          rw [show mayB V d = false by simpa using hmay]
          clear hmay HG
          go_wp2_with fail
          exact ⟨⟨i + 1, by omega, rfl, by rw [HG2.out], by rw [HG2.out]; exact HI⟩, by simp [RowKit.intOf]; omega⟩
      · obtain rfl : i = m := by omega
        have hE : VS.take i = VS := List.take_of_length_le (by rw [HV.out.len]; exact Nat.le_refl _)
        rw [hE] at HI
        clear hE
        go_wp2_with fail
        refine bodyPost_ret (results_tmp2 rfl _ _ _) rfl ?_
        exact ⟨gl, gh, rfl, HI.out⟩
end Go.Proofs.YteaacodloabdcaaGreatDoor

namespace Go.Proofs.YteaacodloabdcaaGreatDoor
open Go.RowKit Go.Maps

theorem loadBook (r : Nat) (u v : Value) (w : World) (h0 : w.cell? ⟨r, 0, none⟩ = some u) (h1 : w.cell? ⟨r, 1, none⟩ = some v) : (loadVar 60 ⟨r, 0, none⟩).run Tryz.prog w = .ok (.agg #[u, v]) w := by
  go_simp
theorem resBook {fn : Func} {p : Tmp} (h : fn.results = #[.cell p 60]) (tmps : Array Value) (w : World) (r : Nat) (u v : Value) (hp : tmps.getD p undef = .pointer (some ⟨r, 0, none⟩)) (h0 : w.cell? ⟨r, 0, none⟩ = some u) (h1 : w.cell? ⟨r, 1, none⟩ = some v) : (results fn tmps).run Tryz.prog w = .ok (.agg #[u, v]) w := by
  rw [results_cell1 h, hp]
  have ha : (asAddr (.pointer (some ⟨r, 0, none⟩))).run Tryz.prog w = .ok ⟨r, 0, none⟩ w := rfl
  rw [ha]
  simp only [Result.andThen]
  rw [loadBook r u v w h0 h1]
set_option maxRecDepth 100000 in
set_option maxHeartbeats 1000000 in
theorem qmake_none (w : World) (a : Option Addr) (m c : Nat) (d : Int) (hd : ¬ (1 ≤ d ∧ d ≤ 8)) :
    Calls Tryz.prog 33 #[.int .i64 d, .slice a m c] w fun e w' => e = .returned (bookV none 0 0 none 0 0) ∧ Below w.heap.size w w' := by
  have hb1 : Below w.heap.size w (w.alloc (.cells #[.slice none 0 0, .slice none 0 0] 60)) := (Below.refl _ w).alloc (Nat.le_refl _) _
  have x0 : (w.alloc (.cells #[.slice none 0 0, .slice none 0 0] 60)).cell? ⟨w.heap.size, 0, none⟩ = some (.slice none 0 0) := by simp
  have x1 : (w.alloc (.cells #[.slice none 0 0, .slice none 0 0] 60)).cell? ⟨w.heap.size, 1, none⟩ = some (.slice none 0 0) := by simp
  unfold bookV
  by_cases h1 : d < 1
  · go_enter Tryz.func33, Tryz.ntmps33
    go_wp2_with fail
    exact bodyPost_ret (resBook (p := 4) rfl _ _ w.heap.size _ _ rfl x0 x1) rfl ⟨rfl, hb1⟩
  · have h2 : 8 < d := by omega
    go_enter Tryz.func33, Tryz.ntmps33
    go_wp2_with fail
    exact bodyPost_ret (resBook (p := 4) rfl _ _ w.heap.size _ _ rfl x0 x1) rfl ⟨rfl, hb1⟩
theorem TwoQ.keeps {S : Nat → Prop} {w wr w' : World} {gl gh d : Nat} {fl fh : Nat → Int} (h : TwoQ w wr gl gh d fl fh) (hk : Keeps S wr w') (s1 : ¬ S gl) (s2 : ¬ S gh) (s3 : ∀ i, S i → w.heap.size ≤ i) : TwoQ w w' gl gh d fl fh := by
  obtain ⟨B, b1, b2, b3⟩ := h.l
  obtain ⟨C, c1, c2, c3⟩ := h.h
  exact ⟨⟨B, b1.far hk s1, b2, b3⟩, ⟨C, c1.far hk s2, c2, c3⟩, h.ne, h.l0, h.h0, h.u.trans (hk.below h.u.size s3)⟩
/-- How far Make has come. -/
structure MakeQ (w wr : World) (gl gh gs d j : Nat) (G : List (List Int)) : Prop where
  t : TwoQ w wr gl gs d (loZ G) (fun k => if k < j then stepZ (loZ G k) (hiZ G k) else 0)
  h : ∃ C, VecR wr gh (.slice (some ⟨gh, 0, none⟩) d d) C ∧ C.length = d ∧ ∀ k, k < d → C.getD k 0 = hiZ G k
  ne : gh ≠ gs
  r : wr.heap[w.heap.size]? = some (.cells #[.slice none 0 0, .slice none 0 0] 60)
  r1 : w.heap.size < gl ∧ w.heap.size < gs
theorem MakeQ.step {w wr : World} {gl gh gs d j : Nat} {G : List (List Int)} (h : MakeQ w wr gl gh gs d j G) (hj : j < d) {x : Int} (hx : stepZ (loZ G j) (hiZ G j) = x) : MakeQ w (wr.setCell ⟨gs, j, none⟩ (.int .i32 x)).drew gl gh gs d (j + 1) G := by
  have hK : Keeps (fun i => i = gs) wr (wr.setCell ⟨gs, j, none⟩ (.int .i32 x)).drew := Keeps.drew (Keeps.setCell (p := ⟨gs, j, none⟩) (Keeps.refl (fun i => i = gs) wr) rfl _)
  obtain ⟨C, c1, c2, c3⟩ := h.h
  have hr := h.r1
  refine ⟨((h.t.seth j hj x).drew).congr (fun i _ => rfl) (fun i _ => upto_step (f := fun k => stepZ (loZ G k) (hiZ G k)) (g := fun _ => 0) hx.symm), ⟨C, c1.far hK h.ne, c2, c3⟩, h.ne, ?_, h.r1⟩
  exact (hK.block w.heap.size (Array.getElem?_eq_some_iff.1 h.r).1 (by show ¬ w.heap.size = gs; omega)).trans h.r
theorem wrap_id32 (v : Int) (h0 : -2147483648 ≤ v) (h1 : v ≤ 2147483647) : IntKind.i32.wrap v = v := by
  first
    | (simp [IntKind.wrap, IntKind.bits, IntKind.signed]; omega)
    | (simp [IntKind.wrap, IntKind.bits, IntKind.signed]; split <;> omega)
    | (unfold IntKind.wrap; simp [IntKind.bits, IntKind.signed]; omega)
theorem step_form {x1 x2 : Int} (h1 : -1048576 ≤ x1) (h2 : x1 ≤ 1048576) (h3 : -1048576 ≤ x2) (h4 : x2 ≤ 1048576) : stepZ x1 x2 = max (IntKind.i32.wrap ((IntKind.i32.wrap (IntKind.i32.wrap (IntKind.i32.wrap (x2 - x1) + 255) - 1)).tdiv 255)) 1 := by
  rw [wrap_id32 (x2 - x1) (by omega) (by omega), wrap_id32 (x2 - x1 + 255) (by omega) (by omega), wrap_id32 (x2 - x1 + 255 - 1) (by omega) (by omega)]
  unfold stepZ
  by_cases h : 0 ≤ x2 - x1 + 255 - 1
  · rw [tdiv_pos (by omega) h, wrap_id32 _ (by omega) (by omega)]; omega
  · have h5 := tdiv_neg (s := 255) (by omega) (show x2 - x1 + 255 - 1 < 0 by omega)
    have h6 : -2147483648 ≤ (x2 - x1 + 255 - 1).tdiv 255 := by
      have e : (x2 - x1 + 255 - 1).tdiv 255 = -((-(x2 - x1 + 255 - 1)) / 255) := by
        rw [← tdiv_pos (s := 255) (by omega) (by omega), Int.neg_tdiv, Int.neg_neg]
      rw [e]; omega
    rw [wrap_id32 _ h6 (by omega)]; omega
theorem loZ_fit {d : Int} {VS : List (List Int)} (k : Nat) : -1048576 ≤ loZ (goodL d VS) k ∧ loZ (goodL d VS) k ≤ 1048576 ∧ -1048576 ≤ hiZ (goodL d VS) k ∧ hiZ (goodL d VS) k ≤ 1048576 := by
  have hf : ∀ u ∈ goodL d VS, -1048576 ≤ u.getD k 0 ∧ u.getD k 0 ≤ 1048576 := by
    intro u hu
    have := mayB_yes (List.mem_filter.1 hu).2
    by_cases hk : k < u.length
    · exact this.2 k hk
    · have : u.getD k 0 = 0 := by simp [List.getD, List.getElem?_eq_none (show u.length ≤ k by omega)]
      omega
  by_cases hG : goodL d VS = []
  · rw [hG]
    show -1048576 ≤ (0:Int) ∧ (0:Int) ≤ 1048576 ∧ -1048576 ≤ (0:Int) ∧ (0:Int) ≤ 1048576
    omega
  · obtain ⟨u, hu, e1⟩ := loZ_is k hG
    obtain ⟨t, ht, e2⟩ := hiZ_is k hG
    have h1 := hf u hu
    have h2 := hf t ht
    omega
set_option maxRecDepth 100000 in
set_option maxHeartbeats 1000000 in
theorem qmake_at {w : World} {a : Option Addr} {m c : Nat} {VS : List (List Int)} (h : VecsAt w a m c VS) (hm : m ≤ 1000000000) (d : Nat) (hd : 1 ≤ d ∧ d ≤ 8) :
    Calls Tryz.prog 33 #[.int .i64 d, .slice a m c] w fun e w' => ∃ gl gs, e = .returned (bookV (some ⟨gl, 0, none⟩) d d (some ⟨gs, 0, none⟩) d d) ∧ TwoQ w w' gl gs d (loZ (goodL d VS)) (fun k => stepZ (loZ (goodL d VS) k) (hiZ (goodL d VS) k)) := by
  have hb1 : Below w.heap.size w (w.alloc (.cells #[.slice none 0 0, .slice none 0 0] 60)) := (Below.refl _ w).alloc (Nat.le_refl _) _
  have HV : Hid (VecsAt (w.alloc (.cells #[.slice none 0 0, .slice none 0 0] 60)) a m c VS) := h.all hb1
  have HB : Hid (Below w.heap.size w (w.alloc (.cells #[.slice none 0 0, .slice none 0 0] 60))) := hb1
  have hmk := fun w => mkI32 d (by omega) w
  have HZ : Hid (∀ k, -1048576 ≤ loZ (goodL d VS) k ∧ loZ (goodL d VS) k ≤ 1048576 ∧ -1048576 ≤ hiZ (goodL d VS) k ∧ hiZ (goodL d VS) k ≤ 1048576) := fun k => loZ_fit k
  clear h hb1
  unfold bookV
  go_enter Tryz.func33, Tryz.ntmps33
  go_wp2_with fail
  refine (ends_at HV.out hm d hd).mono ?_
  obtain ⟨G, hG⟩ : ∃ G, goodL d VS = G := ⟨_, rfl⟩
  rw [hG] at HZ ⊢
  have HG : Hid (goodL d VS = G) := hG
  clear hG
  rintro e w2 ⟨gl, gh, rfl, hT⟩
  have HI0 : Hid (MakeQ w (w2.alloc (.cells (vrow d) 21)) gl gh w2.heap.size d 0 G) := by
    obtain ⟨B, b1, b2, b3⟩ := hT.l
    obtain ⟨C, c1, c2, c3⟩ := hT.h
    have hA : Below w2.heap.size w2 (w2.alloc (.cells (vrow d) 21)) := (Below.refl _ _).alloc (Nat.le_refl _) _
    have hn := new_vec d (by omega) w2
    have hu := HB.out.trans (hT.u.mono HB.out.size)
    have l0 := hT.l0
    have g1 := b1.gl
    have g2 := c1.gl
    have hs : (w.alloc (.cells #[.slice none 0 0, .slice none 0 0] 60)).heap.size = w.heap.size + 1 := by simp
    have hr : w2.heap[w.heap.size]? = some (.cells #[.slice none 0 0, .slice none 0 0] 60) := (hT.u.block w.heap.size (by rw [hs]; omega)).trans (heap_alloc_last w _)
    refine ⟨⟨⟨B, b1.below hA, b2, b3⟩, ⟨_, hn, by simp, fun i hi => by simp [List.getD, hi]⟩, by omega, by omega, by omega, hu.trans (hA.mono hu.size)⟩, ⟨C, c1.below hA, c2, c3⟩, by omega, ?_, by omega, by omega⟩
    exact (hA.block w.heap.size (Array.getElem?_eq_some_iff.1 hr).1).trans hr
  clear hT HB HV
  obtain ⟨gs, hgs⟩ : ∃ g, w2.heap.size = g := ⟨_, rfl⟩
  go_wp2_with fail
  clear hmk
  rw [hgs] at HI0
  generalize w2.alloc (.cells (vrow d) 21) = w3 at *
  clear hgs
  go_loopw [26] (fun s26 wr => ∃ j : Nat, j ≤ d ∧ s26 = .int .i64 j ∧ Hid (MakeQ w wr gl gh gs d j G)) (fun s26 _ => d - (RowKit.intOf s26).toNat)
  case atStart => exact ⟨0, Nat.zero_le _, rfl, HI0⟩
  case round =>
    clear HI0
    obtain ⟨j, hj, rfl, HI⟩ := hrel
    by_cases hlt : j < d
    · obtain ⟨C, c1, c2, c3⟩ := HI.out.h
      have q0 := HI.out.t.cells j hlt
      simp only [Nat.lt_irrefl, if_false] at q0
      obtain ⟨q1, q2, q3, q4⟩ := q0
      have q5 := c1.cell j (by omega)
      rw [c3 j hlt] at q5
      have m1 : gs ≠ gl := Ne.symm HI.out.t.ne
      have m2 : gs ≠ gh := Ne.symm HI.out.ne
      clear c1 c2 c3 C q3
      have hz := HZ.out j
      have HS : Hid (∀ {x : Int}, stepZ (loZ G j) (hiZ G j) = x → MakeQ w (wr.setCell ⟨gs, j, none⟩ (.int .i32 x)).drew gl gh gs d (j + 1) G) := fun hx => HI.out.step hlt hx
      clear HI
      have HE : Hid (stepZ (loZ G j) (hiZ G j) = max ((hiZ G j - loZ G j + 254) / 255) 1) := rfl
      generalize loZ G j = x1 at *
      generalize hiZ G j = x2 at *
      go_wp2_with fail
      refine wp_region_noPanic ?_
      go_region_held (fun w' => w'.cell? ⟨gl, j, none⟩ = some (.int .i32 x1) ∧ w'.cell? ⟨gh, j, none⟩ = some (.int .i32 x2)) (first | assumption | exact ⟨q1, q5⟩ | go_keep) (fail)
      refine NoPanic.normal ?_
      rw [← step_form hz.1 hz.2.1 hz.2.2.1 hz.2.2.2]
      have HN : Hid (MakeQ w (wr.setCell ⟨gs, j, none⟩ (.int .i32 (stepZ x1 x2))).drew gl gh gs d (j + 1) G) := HS.out rfl
      generalize stepZ x1 x2 = x at *
      clear HS HE q1 q2 q4 q5
      go_wp2_with fail
      exact ⟨⟨j + 1, by omega, rfl, HN⟩, by simp [RowKit.intOf]; omega⟩
    · obtain rfl : j = d := by omega
      have HT : Hid (TwoQ w wr gl gs j (loZ G) (fun k => stepZ (loZ G k) (hiZ G k))) := HI.out.t.congr (fun i _ => rfl) (fun i hi => if_pos hi)
      have hr := HI.out.r
      have hr1 := HI.out.r1
      have x0 : wr.cell? ⟨w.heap.size, 0, none⟩ = some (.slice none 0 0) := by rw [cell_of_row _ _ 0 _ 60 (0, 0) hr]; rfl
      have x1 : wr.cell? ⟨w.heap.size, 1, none⟩ = some (.slice none 0 0) := by rw [cell_of_row _ _ 1 _ 60 (0, 0) hr]; rfl
      have z0 := frozen_of_row _ _ 0 _ 60 hr
      have z1 := frozen_of_row _ _ 1 _ 60 hr
      clear HI hr
      go_wp2_with fail
      obtain ⟨y0, y1⟩ := two_set x0 x1 (.slice (some ⟨gl, 0, none⟩) j j) (.slice (some ⟨gs, 0, none⟩) j j)
      have hk := ((Keeps.refl (fun i => i = w.heap.size) wr).setCell (p := ⟨w.heap.size, 0, none⟩) rfl (.slice (some ⟨gl, 0, none⟩) j j)).setCell (p := ⟨w.heap.size, 1, none⟩) rfl (.slice (some ⟨gs, 0, none⟩) j j)
      refine bodyPost_ret (resBook (p := 4) rfl _ _ w.heap.size _ _ rfl y0 y1) rfl ⟨gl, gs, rfl, ?_⟩
      rw [HG.out]
      exact HT.out.keeps hk (by show ¬ gl = w.heap.size; omega) (by show ¬ gs = w.heap.size; omega) (fun i e => by omega)
end Go.Proofs.YteaacodloabdcaaGreatDoor

namespace Go.Proofs.YteaacodloabdcaaGreatDoor
open Go.RowKit Go.Maps

theorem dim_at (n : Int) (w : World) : Calls Tryz.prog 14 #[.int .i64 n] w fun e w' => ∃ d : Nat, e = .returned (.int .i64 d) ∧ 1 ≤ d ∧ d ≤ 8 ∧ w' = w := by
  have hr := rem_any n 8 (by omega)
  go_enter Tryz.func14, Tryz.ntmps14
  go_wp2_with fail
  go_ret
  exact ⟨(1 + n.tmod 8 % 8).toNat, by rw [Int.toNat_of_nonneg (by omega)]; rfl, by omega, by omega, rfl⟩
end Go.Proofs.YteaacodloabdcaaGreatDoor

namespace Go.Proofs.YteaacodloabdcaaGreatDoor
open Go.RowKit Go.Maps

theorem TwoQ.book {w wr : World} {gl gs d : Nat} {G : List (List Int)} (h : TwoQ w wr gl gs d (loZ G) (fun k => stepZ (loZ G k) (hiZ G k))) (hz : ∀ k, -1048576 ≤ loZ G k ∧ loZ G k ≤ 1048576 ∧ -1048576 ≤ hiZ G k ∧ hiZ G k ≤ 1048576) :
    BookAt wr (some ⟨gl, 0, none⟩) d d (some ⟨gs, 0, none⟩) d d (lowsZ G d) (stepsZ G d) := by
  obtain ⟨B, b1, b2, b3⟩ := h.l
  obtain ⟨C, c1, c2, c3⟩ := h.h
  have e1 : B = lowsZ G d := getD_ext (by rw [b2]; simp [lowsZ]) (fun i hi => by rw [b3 i (by omega)]; exact (range_getD _ _ _ (by omega)).symm)
  have e2 : C = stepsZ G d := getD_ext (by rw [c2]; simp [stepsZ]) (fun i hi => by rw [c3 i (by omega)]; exact (range_getD (fun k => stepZ (loZ G k) (hiZ G k)) _ _ (by omega)).symm)
  subst e1; subst e2
  have l1 : (lowsZ G d).length = d := by simp [lowsZ]
  have l2 : (stepsZ G d).length = d := by simp [stepsZ]
  constructor
  · obtain ⟨p, c, e, hA, _⟩ := b1.toAt (fun x hx => by
      obtain ⟨k, _, rfl⟩ := List.mem_map.1 hx
      have := hz k; omega)
    rw [l1] at e hA
    injection e with q1 q2 q3
    subst q1; subst q3
    exact hA
  · obtain ⟨p, c, e, hA, _⟩ := c1.toAt (fun x hx => by
      obtain ⟨k, _, rfl⟩ := List.mem_map.1 hx
      have := hz k
      unfold stepZ; omega)
    rw [l2] at e hA
    injection e with q1 q2 q3
    subst q1; subst q3
    exact hA
theorem fine_steps (G : List (List Int)) (d : Nat) : fineB (lowsZ G d) (stepsZ G d) = true := by
  refine fineB_all (by simp [lowsZ, stepsZ]) (fun j hj => ?_)
  have : (stepsZ G d).getD j 0 = stepZ (loZ G j) (hiZ G j) := range_getD _ _ _ (by simpa [stepsZ] using hj)
  rw [this]
  exact stepZ_pos _ _
theorem VecR.one' {w : World} {g n : Nat} {A : List Int} (h : VecR w g (.slice (some ⟨g, 0, none⟩) n n) A) (hf : ∀ x ∈ A, -1048576 ≤ x ∧ x ≤ 1048576) : VecAt w (some ⟨g, 0, none⟩) n n A := by
  obtain ⟨p, c, e, hA, _⟩ := h.toAt (fun x hx => by have := hf x hx; omega)
  injection e with e1 e2 e3
  subst e1
  rw [← e2, ← e3] at hA
  exact hA
theorem VecsI.toAt {w w' : World} {d j : Nat} {u : Value} {gs : List Nat} {VS : List (List Int)} (h : VecsI w w' d j u gs VS) (hd : d ≤ 1000000000) : ∃ p c, u = .slice p j c ∧ VecsAt w' p j c ((List.range j).map (fun i => clampA (VS.getD i []) d)) := by
  have hl := h.len
  rcases h.row.2 with ⟨rfl, h0⟩ | ⟨g, cap, cur, rfl, hg, hH, hc, _, _, htk⟩
  · exact ⟨none, 0, by rw [← hl, h0], ⟨by simp, by omega, fun i hi => by omega⟩⟩
  · refine ⟨some ⟨g, 0, none⟩, cap, by rw [hl], ⟨by simp, by omega, fun i hi => ?_⟩⟩
    obtain ⟨h1, _⟩ := h.at_ i hi
    refine ⟨g, 0, some ⟨gs.getD i 0, 0, none⟩, d, d, rfl, (Array.getElem?_eq_some_iff.1 hH).1, ?_, (by omega), ?_⟩
    · rw [Nat.zero_add, cell_of_row _ _ i _ 23 (0, 0) hH]
      have : (cur.toList.take (gs.length * 1))[i]? = some (slV d (gs.getD i 0)) := by
        rw [htk, List.getElem?_map, List.getElem?_eq_getElem (by omega)]; simp [List.getD, hl, hi]
      rw [List.getElem?_take, if_pos (by omega)] at this
      simpa using this
    · have e : ((List.range j).map (fun i => clampA (VS.getD i []) d)).getD i [] = clampA (VS.getD i []) d := by
        rw [List.getD_eq_getElem?_getD, List.getElem?_map, List.getElem?_range hi]
        rfl
      rw [e]
      exact h1.one' (clampA_fit _ _)
end Go.Proofs.YteaacodloabdcaaGreatDoor
