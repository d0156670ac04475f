/- BinAll (P2.1): for every list of int64, list of texts, int, list of bytes and list of bools the law answers true, and they read as they did: numbers and texts in bytes are read back as they were written, one behind the other; what is cut off or is none of either is told as such. No condition but what the row itself lists: errors.errorType reads as the program's text lays it. -/
import Derived.Test.YtmdjjnjhjojimaaDoorIntsA
import Derived.Test.YtmdjjnjhjojimaaDoorTie
import Derived.ChangeSlices
import Derived.Carry
import Derived.Test.YtmdjjnjhjojimaaDoorBallC
import Derived.Deep.Strs
import Derived.Deep.Grids
import Derived.Test.YtmdjjnjhjojimaaDoorLaid
import Derived.Test.YtmdjjnjhjojimaaDoorCards
import Derived.SevenTiedAt
import Derived.ChangeMaps5
namespace Go.Proofs.YtmdjjnjhjojimaaDoor
open Go.ChangeShapes Go.WideShapes Go.RowKit

theorem ints_arg {H : Type} {enc : TypeId × Value → H} {W : World} {t e : TypeId} {a : Option Addr} {l c : Nat} {d : DataW H} {p : List MemPlace} (ht : Tryd.prog.underlying t = some (.slice e)) (he : Tryd.prog.underlying e = some (.int .i64)) (hc : Tryd.prog.cellsOf e = 1)
    (h : DataW.Trod enc Tryd.prog W 0 (fun _ => true) true t (.slice a l c) d p) : ∃ A : List Int, IntsAt W W.heap.size a l A ∧ l ≤ c ∧ c ≤ 9223372036854775807 := by
  obtain ⟨fuel, hf⟩ := h
  rcases open_ints ht he hc hf with ⟨hcs, _⟩ | ⟨a', len, cap, zs, hcs, _, hl, hm, hz, _, hcell, hwf⟩
  · simp only [Value.cells, List.cons.injEq, and_true, Value.slice.injEq] at hcs
    obtain ⟨rfl, rfl, rfl⟩ := hcs
    exact ⟨[], ⟨rfl, fun x hx => (by cases hx), Or.inl rfl⟩, Nat.le_refl _, by omega⟩
  · simp only [Value.cells, List.cons.injEq, and_true, Value.slice.injEq] at hcs
    obtain ⟨rfl, rfl, rfl⟩ := hcs
    simp only [if_true] at hz
    have hm' : c ≤ 9223372036854775807 := by unfold maxLen at hm; omega
    refine ⟨zs.take l, ⟨by rw [List.length_take]; omega, fun x hx => ?_, ?_⟩, hl, hm'⟩
    · have := hwf x (List.mem_of_mem_take hx)
      simpa [Lit.wf, IntKind.min, IntKind.max, IntKind.signed, IntKind.bits] using this
    · rcases Nat.eq_zero_or_pos l with h0 | h0
      · exact Or.inl h0
      · have hc0 := hcell 0 (by omega)
        have hsp := World.cell?_spot hc0
        obtain ⟨ab, ao, asp⟩ := a'
        simp only [Addr.add, if_true] at hsp
        subst hsp
        refine Or.inr ⟨ab, ao, rfl, World.block_lt_of_cell? _ _ hc0, ?_⟩
        intro j v hv
        simp only [List.getElem?_map] at hv
        cases hj : (zs.take l)[j]? with
        | none => simp [hj] at hv
        | some i =>
          simp only [hj, Option.map_some, Option.some.injEq] at hv
          subst hv
          rw [List.getElem?_take] at hj
          split at hj
          · have h1 := hcell j (by omega)
            have h2 : zs.getD j 0 = i := by simp [List.getD, hj]
            rw [h2] at h1
            rw [← Addr.add_mid]
            exact h1
          · cases hj
end Go.Proofs.YtmdjjnjhjojimaaDoor

namespace Go.Proofs.YtmdjjnjhjojimaaDoor
open Go.ChangeShapes Go.WideShapes Go.RowKit

theorem strs_arg {H : Type} {enc : TypeId × Value → H} {W : World} {t e : TypeId} {a : Option Addr} {l c : Nat} {d : DataW H} {p : List MemPlace} (ht : Tryd.prog.underlying t = some (.slice e)) (he : Tryd.prog.underlying e = some .string) (hc : Tryd.prog.cellsOf e = 1)
    (h : DataW.Trod enc Tryd.prog W 0 (fun _ => true) true t (.slice a l c) d p) : ∃ A : List ByteArray, StrsAt W W.heap.size a l A ∧ l ≤ c ∧ c ≤ 9223372036854775807 := by
  obtain ⟨fuel, hf⟩ := h
  rcases Go.Deep.open_strs ht he hc hf with ⟨hcs, _⟩ | ⟨a', len, cap, m, Sx, hcs, _, hl, hm, hz, _, hcell⟩
  · simp only [Value.cells, List.cons.injEq, and_true, Value.slice.injEq] at hcs
    obtain ⟨rfl, rfl, rfl⟩ := hcs
    exact ⟨[], ⟨rfl, Or.inl rfl⟩, Nat.le_refl _, by omega⟩
  · simp only [Value.cells, List.cons.injEq, and_true, Value.slice.injEq] at hcs
    obtain ⟨rfl, rfl, rfl⟩ := hcs
    simp only [if_true] at hz
    have hm' : c ≤ 9223372036854775807 := by unfold maxLen at hm; omega
    refine ⟨(List.range l).map Sx, ⟨by simp, ?_⟩, hl, hm'⟩
    rcases Nat.eq_zero_or_pos l with h0 | h0
    · exact Or.inl h0
    · have hc0 := (hcell 0 (by omega)).1
      have hsp := World.cell?_spot hc0
      obtain ⟨ab, ao, asp⟩ := a'
      simp only [Addr.add, if_true] at hsp
      subst hsp
      refine Or.inr ⟨ab, ao, rfl, World.block_lt_of_cell? _ _ hc0, ?_⟩
      intro j v hv
      simp only [List.getElem?_map, List.map_map] at hv
      cases hj : (List.range l)[j]? with
      | none => simp [hj] at hv
      | some i =>
        simp only [hj, Option.map_some, Option.some.injEq, Function.comp] at hv
        subst hv
        obtain ⟨hjl, hje⟩ := List.getElem?_eq_some_iff.1 hj
        simp only [List.length_range] at hjl
        simp only [List.getElem_range] at hje
        subst hje
        rw [← Addr.add_mid]
        exact (hcell j (by omega)).1

theorem keepl_arg {H : Type} {enc : TypeId × Value → H} {W : World} {t e : TypeId} {a : Option Addr} {l c : Nat} {d : DataW H} {p : List MemPlace} (ht : Tryd.prog.underlying t = some (.slice e)) (he : Tryd.prog.underlying e = some .bool) (hc : Tryd.prog.cellsOf e = 1)
    (h : DataW.Trod enc Tryd.prog W 0 (fun _ => true) true t (.slice a l c) d p) : ∃ K : List Bool, KeepL W W.heap.size a l K := by
  obtain ⟨fuel, hf⟩ := h
  rcases Go.Deep.open_bools ht he hc hf with ⟨hcs, _⟩ | ⟨a', len, cap, B, hcs, _, hl, _, _, hcell⟩
  · simp only [Value.cells, List.cons.injEq, and_true, Value.slice.injEq] at hcs
    obtain ⟨rfl, rfl, rfl⟩ := hcs
    exact ⟨[], ⟨rfl, Or.inl rfl⟩⟩
  · simp only [Value.cells, List.cons.injEq, and_true, Value.slice.injEq] at hcs
    obtain ⟨rfl, rfl, rfl⟩ := hcs
    refine ⟨(List.range l).map B, ⟨by simp, ?_⟩⟩
    rcases Nat.eq_zero_or_pos l with h0 | h0
    · exact Or.inl h0
    · have hc0 := hcell 0 (by omega)
      have hsp := World.cell?_spot hc0
      obtain ⟨ab, ao, asp⟩ := a'
      simp only [Addr.add, if_true] at hsp
      subst hsp
      refine Or.inr ⟨ab, ao, rfl, World.block_lt_of_cell? _ _ hc0, ?_⟩
      intro j v hv
      simp only [List.getElem?_map, List.map_map] at hv
      cases hj : (List.range l)[j]? with
      | none => simp [hj] at hv
      | some i =>
        simp only [hj, Option.map_some, Option.some.injEq, Function.comp] at hv
        subst hv
        obtain ⟨hjl, hje⟩ := List.getElem?_eq_some_iff.1 hj
        simp only [List.length_range] at hjl
        simp only [List.getElem_range] at hje
        subst hje
        rw [← Addr.add_mid]
        exact hcell j (by omega)

theorem bytes_arg {H : Type} {enc : TypeId × Value → H} {W : World} {t e : TypeId} {a : Option Addr} {l c : Nat} {d : DataW H} {p : List MemPlace} (ht : Tryd.prog.underlying t = some (.slice e)) (he : Tryd.prog.underlying e = some (.int .u8)) (hc : Tryd.prog.cellsOf e = 1)
    (h : DataW.Trod enc Tryd.prog W 0 (fun _ => true) true t (.slice a l c) d p) : ∃ R : List UInt8, R.length = l ∧ BAny W W.heap.size a c R ∧ c ≤ 9223372036854775807 := by
  obtain ⟨fuel, hf⟩ := h
  rcases open_ints ht he hc hf with ⟨hcs, _⟩ | ⟨a', len, cap, zs, hcs, _, hl, hm, hz, _, hcell, hwf⟩
  · simp only [Value.cells, List.cons.injEq, and_true, Value.slice.injEq] at hcs
    obtain ⟨rfl, rfl, rfl⟩ := hcs
    exact ⟨[], rfl, ⟨Nat.le_refl _, Or.inl rfl⟩, by omega⟩
  · simp only [Value.cells, List.cons.injEq, and_true, Value.slice.injEq] at hcs
    obtain ⟨rfl, rfl, rfl⟩ := hcs
    simp only [if_true] at hz
    have hm' : c ≤ 9223372036854775807 := by unfold maxLen at hm; omega
    have hlen : ((zs.take l).map fun n => UInt8.ofNat n.toNat).length = l := by simp; omega
    refine ⟨(zs.take l).map fun n => UInt8.ofNat n.toNat, hlen, ⟨by rw [hlen]; exact hl, ?_⟩, hm'⟩
    rcases Nat.eq_zero_or_pos l with h0 | h0
    · subst h0; exact Or.inl rfl
    · have hc0 := hcell 0 (by omega)
      have hsp := World.cell?_spot hc0
      obtain ⟨ab, ao, asp⟩ := a'
      simp only [Addr.add, if_true] at hsp
      subst hsp
      refine Or.inr ⟨ab, ao, rfl, World.block_lt_of_cell? _ _ hc0, ?_⟩
      intro j v hv
      unfold bytesV at hv
      simp only [List.getElem?_map, List.map_map] at hv
      cases hj : (zs.take l)[j]? with
      | none => simp [hj] at hv
      | some i =>
        simp only [hj, Option.map_some, Option.some.injEq, Function.comp] at hv
        rw [List.getElem?_take] at hj
        split at hj
        · have h1 := hcell j (by omega)
          have h2 : zs.getD j 0 = i := by simp [List.getD, hj]
          rw [h2] at h1
          have hb : 0 ≤ i ∧ i ≤ 255 := by
            have := hwf i (List.mem_of_getElem? hj)
            simpa [Lit.wf, IntKind.min, IntKind.max, IntKind.signed, IntKind.bits] using this
          rw [← Addr.add_mid, h1, ← hv]
          have hn : (UInt8.ofNat i.toNat).toNat = i.toNat := by rw [UInt8.toNat_ofNat', Nat.mod_eq_of_lt (by omega)]
          have hi : ((UInt8.ofNat i.toNat).toNat : Int) = i := by rw [hn]; omega
          show some (Value.int .u8 i) = some (Value.int .u8 ((UInt8.ofNat i.toNat).toNat : Int))
          rw [hi]
        · cases hj
section
variable {H : Type} {enc : TypeId × Value → H} {P : Program} {w : World} {base : Nat} {spare : Nat → Bool} {held : Bool}
theorem trodAll_five {t1 t2 t3 t4 t5 : TypeId} {args : Array Value} {ds : List (DataW H)} {ps : List MemPlace} (h : DataW.TrodAll enc P w base spare held [t1, t2, t3, t4, t5] args.toList ds ps) :
    ∃ v1 v2 v3 v4 v5 d1 d2 d3 d4 d5 p1 p2 p3 p4 p5, args = #[v1, v2, v3, v4, v5] ∧ ds = [d1, d2, d3, d4, d5] ∧ ps = p1 ++ p2 ++ p3 ++ p4 ++ p5 ∧ DataW.Trod enc P w base spare held t1 v1 d1 p1 ∧ DataW.Trod enc P w base spare held t2 v2 d2 p2 ∧ DataW.Trod enc P w base spare held t3 v3 d3 p3 ∧ DataW.Trod enc P w base spare held t4 v4 d4 p4 ∧ DataW.Trod enc P w base spare held t5 v5 d5 p5 := by
  obtain ⟨v1, vs1, d1, ds1, p1, q1, hargs, rfl, rfl, h1, r1⟩ := trodAll_cons h
  obtain ⟨v2, vs2, d2, ds2, p2, q2, rfl, rfl, rfl, h2, r2⟩ := trodAll_cons r1
  obtain ⟨v3, vs3, d3, ds3, p3, q3, rfl, rfl, rfl, h3, r3⟩ := trodAll_cons r2
  obtain ⟨v4, vs4, d4, ds4, p4, q4, rfl, rfl, rfl, h4, r4⟩ := trodAll_cons r3
  obtain ⟨v5, vs5, d5, ds5, p5, q5, rfl, rfl, rfl, h5, r5⟩ := trodAll_cons r4
  obtain ⟨rfl, rfl, rfl⟩ := trodAll_nil r5
  exact ⟨v1, v2, v3, v4, v5, d1, d2, d3, d4, d5, p1, p2, p3, p4, p5, by cases args; simp_all, rfl, by simp, h1, h2, h3, h4, h5⟩
theorem trodAll_mk5 {t1 t2 t3 t4 t5 : TypeId} {v1 v2 v3 v4 v5 : Value} {d1 d2 d3 d4 d5 : DataW H} {p1 p2 p3 p4 p5 : List MemPlace} (h1 : DataW.Trod enc P w base spare held t1 v1 d1 p1) (h2 : DataW.Trod enc P w base spare held t2 v2 d2 p2)
    (h3 : DataW.Trod enc P w base spare held t3 v3 d3 p3) (h4 : DataW.Trod enc P w base spare held t4 v4 d4 p4) (h5 : DataW.Trod enc P w base spare held t5 v5 d5 p5) : DataW.TrodAll enc P w base spare held [t1, t2, t3, t4, t5] [v1, v2, v3, v4, v5] [d1, d2, d3, d4, d5] (p1 ++ (p2 ++ (p3 ++ (p4 ++ p5)))) := ⟨p1, p2 ++ (p3 ++ (p4 ++ p5)), h1, trodAll_mk4 h2 h3 h4 h5, rfl⟩
end
end Go.Proofs.YtmdjjnjhjojimaaDoor

namespace Go.Proofs.YtmdjjnjhjojimaaDoor
open Go.ChangeShapes Go.WideShapes Go.RowKit

set_option maxRecDepth 100000 in
theorem binAll_lifted (os : Os) (started : os.Started) (H : Type) (enc : TypeId × Value → H) :
    ReturnsInHanded {} Tryd.checked os 6 .any (fun w args => (Rows.binAllSpec.pre enc Tryd.prog Tryd.f6 [] false w args ∧ laidMetH Tryd.prog theLaid w) ∧ sizedMet enc Tryd.prog Tryd.f6 (OpenSpec.ofChange Rows.binAllSpec) false w args)
      (Rows.binAllSpec.post enc Tryd.prog Tryd.f6 false true false false) := by
  refine returnsInHanded_of_change_and (C := Tryd.checked) (X := fun w _ => laidMetH Tryd.prog theLaid w) (fun _ _ _ hh h => h.of_heap hh) Tryd.own started (by kernel_rfl) Tryd.func6
    (ChangeSpec.witness_at (enc := enc) (C := Tryd.checked) (os := os) (X := fun w _ => laidMetH Tryd.prog theLaid w) false ({ World.holding Tryd.prog os ⟨#[], #[], []⟩ with heap := laidHeap (World.holding Tryd.prog os ⟨#[], #[], []⟩).heap } : World) #[.slice none 0 0, .slice none 0 0, .int .i64 0, .slice none 0 0, .slice none 0 0] 8 rfl (by kernel_rfl) (by kernel_rfl) (by kernel_rfl) (by kernel_rfl) (by kernel_rfl) (laidWorld_met os _)) ?_
  intro W base args ds gs before hval0 hW _ _ hL _
  have hval : ∀ (j : Nat) t v, Tryd.f6.params[j]? = some t → args[j]? = some v → Value.okWide Tryd.prog W .any base t v := hval0
  have hW' := hW
  obtain ⟨p, q, hA0, hV0, rfl, hfz, hnd⟩ := hW
  have hA : DataW.TrodAll enc Tryd.prog W 0 (fun _ => true) true Tryd.f6.params.toList args.toList ds p := hA0
  have hV : DataW.TrodVars enc Tryd.prog W (fun _ => true) [] gs q := hV0
  rw [Tryd.params6] at hA hval
  obtain ⟨v1, v2, v3, v4, v5, d1, d2, d3, d4, d5, p1, p2, p3, p4, p5, rfl, rfl, rfl, h1, h2, h3, h4, h5⟩ := trodAll_five hA
  obtain ⟨a1, l1, c1, rfl⟩ := okWide_slice Tryd.underlying52 (hval 0 52 v1 rfl rfl)
  obtain ⟨a2, l2, c2, rfl⟩ := okWide_slice Tryd.underlying53 (hval 1 53 v2 rfl rfl)
  obtain ⟨n3, rfl, rfl, rfl, hw3⟩ := open_int Tryd.underlying3 (hval 2 3 v3 rfl rfl) h3
  obtain ⟨a4, l4, c4, rfl⟩ := okWide_slice Tryd.underlying33 (hval 3 33 v4 rfl rfl)
  obtain ⟨a5, l5, c5, rfl⟩ := okWide_slice Tryd.underlying28 (hval 4 28 v5 rfl rfl)
  have hg := handle_of_laid hL
  obtain ⟨rfl, rfl⟩ : gs = [] ∧ q = [] := by
    cases gs with
    | nil => exact ⟨rfl, hV⟩
    | cons g r => exact absurd hV (by intro h; cases h)
  obtain ⟨A1, hK1, hf1⟩ := ints_arg Tryd.underlying52 Tryd.underlying2 (by kernel_rfl) h1
  have hlt1 : ∀ y ∈ p1, y.block < W.heap.size := fun y hy => hW'.lt y (by simp [hy])
  obtain ⟨A2, hK2, hf2⟩ := strs_arg Tryd.underlying53 Tryd.underlying9 (by kernel_rfl) h2
  have hlt2 : ∀ y ∈ p2, y.block < W.heap.size := fun y hy => hW'.lt y (by simp [hy])
  obtain ⟨A4, hl4, hK4, hf4⟩ := bytes_arg Tryd.underlying33 Tryd.underlying5 (by kernel_rfl) h4
  have hlt4 : ∀ y ∈ p4, y.block < W.heap.size := fun y hy => hW'.lt y (by simp [hy])
  obtain ⟨A5, hK5⟩ := keepl_arg Tryd.underlying28 Tryd.underlying4 (by kernel_rfl) h5
  have hlt5 : ∀ y ∈ p5, y.block < W.heap.size := fun y hy => hW'.lt y (by simp [hy])
  have e1 : Rows.binAllSpec.fn H ([d1, d2, .lit (.int .i64 n3), d4, d5] ++ []) = { results := [.lit (.bool true)], args := [d1, d2, .lit (.int .i64 n3), d4, d5] } := by simp [Rows.binAllSpec]
  refine (binAll_true a1 a2 a4 a5 l1 c1 l2 c2 l4 c4 l5 c5 n3 A1 A2 W hK1 hK2 A4 hl4 hK4 hf4 A5 hK5 hg).mono fun e W' ⟨he, hbel⟩ => ?_
  subst he
  refine ⟨_, rfl, _, _, _, [], p1 ++ (p2 ++ ([] ++ (p4 ++ p5))), [], hW', ?_, ?_, ?_, hbel.frame _, fun h => by cases h⟩
  · rw [e1]; exact trodAll_mk1 (shut_bool Tryd.underlying4 true)
  · rw [e1]; exact trodAll_mk5 (Go.RowKit.Below.trod (by kernel_rfl) (by kernel_rfl) (show 52 < Tryd.prog.types.size by rw [Tryd.tsize]; omega) h1 hbel hlt1) (Go.RowKit.Below.trod (by kernel_rfl) (by kernel_rfl) (show 53 < Tryd.prog.types.size by rw [Tryd.tsize]; omega) h2 hbel hlt2) (shut_int Tryd.underlying3 hw3) (Go.RowKit.Below.trod (by kernel_rfl) (by kernel_rfl) (show 33 < Tryd.prog.types.size by rw [Tryd.tsize]; omega) h4 hbel hlt4) (Go.RowKit.Below.trod (by kernel_rfl) (by kernel_rfl) (show 28 < Tryd.prog.types.size by rw [Tryd.tsize]; omega) h5 hbel hlt5)
  · rw [e1]; rfl

theorem binAll_said : Rows.BinAllSaid :=
  OpenClaim.holds_of_wide 6 Tryd.f6 rfl rfl rfl rfl rfl rfl rfl ⟨rfl, rfl, rfl, rfl, rfl⟩ rfl rfl rfl rfl rfl (by kernel_rfl) Tryd.func6 (by kernel_rfl)
    (of_decide_eq_true (by kernel_rfl)) (by unfold Func.isWrapper; rw [if_neg (of_decide_eq_false (by kernel_rfl))]; exact ⟨rfl, rfl⟩)
    (fun os started H enc _ => binAll_lifted os started H enc)

theorem binAll_card : Rows.BinAllCardSaid :=
  Claim7.holds_tied_plain_at .later [] [.handle] true (true, "e0f4ae2f81960756713bd8f2886f18c5087cbb3d66e642d6c2b00961d8c0c7b5") true
    binAll_said (fun _ h => by cases h) (by kernel_rfl) (fun _ h => by cases h) binAll_row_tie rfl ⟨rfl, rfl⟩ (by kernel_rfl) rfl
    (fun f fn hf hfn => by
      obtain rfl : f = 6 := Option.some.inj ((show Tryd.prog.funcNamed Rows.binAllRow.func = some 6 by kernel_rfl).symm.trans hf) |>.symm
      obtain rfl : fn = Tryd.f6 := (Option.some.inj (Tryd.func6.symm.trans hfn)).symm
      exact ⟨by kernel_rfl, fun j t ht => by
        rw [Tryd.params6] at ht
        rcases j with _ | _ | _ | _ | _ | j
        · obtain rfl : t = 52 := by simpa using ht.symm
          exact (show Tryd.prog.wantsStandIn 52 = false by kernel_rfl)
        · obtain rfl : t = 53 := by simpa using ht.symm
          exact (show Tryd.prog.wantsStandIn 53 = false by kernel_rfl)
        · obtain rfl : t = 3 := by simpa using ht.symm
          exact (show Tryd.prog.wantsStandIn 3 = false by kernel_rfl)
        · obtain rfl : t = 33 := by simpa using ht.symm
          exact (show Tryd.prog.wantsStandIn 33 = false by kernel_rfl)
        · obtain rfl : t = 28 := by simpa using ht.symm
          exact (show Tryd.prog.wantsStandIn 28 = false by kernel_rfl)
        · simp at ht⟩)
    (by kernel_rfl)
#print axioms binAll_card
end Go.Proofs.YtmdjjnjhjojimaaDoor
