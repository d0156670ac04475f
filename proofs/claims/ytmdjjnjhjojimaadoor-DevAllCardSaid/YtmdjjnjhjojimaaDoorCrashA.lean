import Derived.Test.YtmdjjnjhjojimaaDoorRead
import Derived.Test.YtmdjjnjhjojimaaDoorLoose
namespace Go.Proofs.YtmdjjnjhjojimaaDoor
open Go.RowKit Go.Maps Go.Sort Go.Shelf

theorem getD_lt {α : Type} (l : List α) (i : Nat) (d : α) (h : i < l.length) : l.getD i d = l[i] := by simp [List.getD, List.getElem?_eq_getElem h]
theorem getD_ge {α : Type} (l : List α) (i : Nat) (d : α) (h : l.length ≤ i) : l.getD i d = d := by simp [List.getD, List.getElem?_eq_none h]
/-- What the map says of a key. -/
def wasOf (D : DataW Unit) (x : Int) : List UInt8 := match D.atKey (.int .i64 x) (.lit (.string zsec)) with | .lit (.string s) => s | _ => zsec
/-- The sectors behind j of the loose ones. -/
def crashB (D : DataW Unit) (K : List Bool) (L : List Int) (B : List UInt8) : Nat → List UInt8
  | 0 => B
  | j + 1 => if K.getD j false = true then crashB D K L B j else put (crashB D K L B j) (L.getD j 0).toNat (wasOf D (L.getD j 0))

theorem clone46' (b o n c : Nat) (s : List UInt8) (w : World) (hs : s.length = n * 64) (hn : 0 < n) (hbig : n ≤ 4096) (hc : w.rangeAt b o (bytesV s)) :
    Calls Tryd.prog 46 #[.slice (some ⟨b, o, none⟩) n c] w fun e w' => ∃ g cap, e = .returned (.slice (some ⟨g, 0, none⟩) n cap) ∧ w.heap.size ≤ g ∧ w'.rangeAt g 0 (bytesV s) ∧ w'.there g 0 (n * 64) ∧ Below w.heap.size w w' := by
  refine (clone46 b o n c s w hs hbig hc).mono ?_
  rintro e w' ⟨v, rfl, hrow, hne, hb⟩
  obtain ⟨hl, ⟨rfl, h0⟩ | ⟨g, cap, cur, rfl, hg, hblk, hnc, hcm, hcs, hcur⟩⟩ := hrow
  · omega
  · refine ⟨g, cap, rfl, hg, ?_, ?_, hb⟩
    · intro j v hv
      rw [cell_of_row _ _ (0 + j) cur 80 (0, 0) hblk]
      rw [← hcur, List.getElem?_take] at hv
      split at hv
      · simpa using hv
      · cases hv
    · intro j hj
      refine ⟨?_, ?_⟩
      · rw [cell_of_row _ _ (0 + j) cur 80 (0, 0) hblk]
        have : 0 + j < cur.size := by rw [hcs]; have := Nat.mul_le_mul_right 64 hnc; omega
        rw [Array.getElem?_eq_getElem this]; rfl
      · simp [World.frozen?, hblk]

/-- Loose, its shape written out: L is sorted. -/
theorem loose_row {w : World} {db nb mb n cap : Nat} {B : List UInt8} {k : Nat} {D : DataW Unit} {left : Int} {down : Bool} (h : DevAt w db nb mb n cap B k D left down) (hk : k ≤ 1000000) :
    Calls Tryd.prog 25 #[.pointer (some ⟨db, 0, none⟩)] w fun e w' => ∃ (L : List Int), L.length ≤ k ∧ L.Perm (intKeys D) ∧ L.Pairwise (fun x y => x ≤ y) ∧ Below w.heap.size w w' ∧
      ((e = .returned (.slice none 0 0) ∧ L = []) ∨ (∃ g c, e = .returned (.slice (some ⟨g, 0, none⟩) L.length c) ∧ w.heap.size ≤ g ∧ 0 < L.length ∧ w'.rangeAt g 0 (L.map encZ))) := by
  refine (loose_any h hk).mono ?_
  rintro e w' ⟨v, ss, rfl, hperm, hrow, hnil, hb⟩
  have hlen : (ss.mergeSort (fun x y => decide (x ≤ y))).length = ss.length := List.length_mergeSort _
  have hkl : (ss.mergeSort (fun x y => decide (x ≤ y))).length ≤ k := by
    rw [hlen, hperm.length_eq]
    have := ownsMap_size h.was
    have e : (intKeys D).length = Maps.size D := by cases D <;> simp [intKeys, Maps.size]
    omega
  refine ⟨ss.mergeSort (fun x y => decide (x ≤ y)), hkl, (List.mergeSort_perm _ _).trans hperm, ?_, hb, ?_⟩
  · have := List.pairwise_mergeSort (le := fun x y : Int => decide (x ≤ y)) (fun a b c h1 h2 => by simp at *; omega) (fun a b => by simp; omega) ss
    exact this.imp (fun h => by simpa using h)
  · obtain ⟨hl, ⟨rfl, h0⟩ | ⟨g, c, cur, rfl, hg, hblk, hnc, hcm, hcs, hcur⟩⟩ := hrow
    · refine Or.inl ⟨rfl, ?_⟩
      have : ss = [] := hnil.1 rfl
      subst this; simp
    · right
      refine ⟨g, c, by rw [hlen], hg, ?_, ?_⟩
      · rw [hlen]
        rcases ss with _ | ⟨x, r⟩
        · have := hnil.2 rfl
          simp at this
        · simp
      · intro j v hv
        rw [cell_of_row _ _ (0 + j) cur 3 (0, 0) hblk]
        rw [← hcur, List.getElem?_take] at hv
        split at hv
        · simpa using hv
        · cases hv

/-- The map's sector, in a still region. -/
theorem wpStill_lookup_sec {w : World} {ops : Array Oper} {rest : List Oper} {o : Oper} {a : Act} {Q : Act → Prop} (hg : o.guard = none) (m x : Operand) (hop : o.op = Op.lookup 82 m x false)
    (b n : Nat) (D : DataW Unit) (hm : a.eval m = .map (some b)) (hown : w.ownsMap Tryd.prog 3 secR b n D) (i : Int) (hx : a.eval x = .int .i64 i) (hkey : keyOf Tryd.prog 3 (.int .i64 i) = some (.int .i64 i))
    (hK : (wasOf D i).length = 64 → wpStill Tryd.prog ops w Q rest (a.put o.dst (.agg (bytesV (wasOf D i)).toArray))) :
    wpStill Tryd.prog ops w Q (o :: rest) a := by
  obtain ⟨v, ps, hrun, hv⟩ := hown.lookup law3 Tryd.underlying82 (zero80 w) (secR_mk zsec rfl) hkey
  obtain ⟨s, hs, rfl, he⟩ := secR_inv hv
  simp only [Prod.mk.injEq] at he
  have e : wasOf D i = s := by simp only [wasOf, he.1]
  refine wpStill_step (fun K hK' => ?_)
  have hw : Region.wanted o (yielded ops a.tmps) = true := by simp [Region.wanted, hg]
  rw [if_pos hw]
  unfold Oper.still execOp
  simp only [hop, hm, hx, hrun, Sem.run_bind, Result.andThen_ok, Sem.run_pure, Oper.stillUpon]
  refine ⟨trivial, hK' _ ?_⟩
  rw [← e]
  exact hK (by rw [e]; exact hs)
/-- holding: a device around sectors that were made. -/
theorem holding_dev {w : World} {g n cap : Nat} {B : List UInt8} (hr : w.rangeAt g 0 (bytesV B)) (ht : w.there g 0 (n * 64)) (hl : B.length = n * 64) (h1 : 64 ≤ n) (h2 : n ≤ 4096) :
    Calls Tryd.prog 42 #[.slice (some ⟨g, 0, none⟩) n cap] w fun e w' => ∃ db mb, e = .returned (.pointer (some ⟨db, 0, none⟩)) ∧ w.heap.size ≤ db ∧ w.heap.size ≤ mb ∧ DevAt w' db g mb n cap B 0 (.map []) 0 false ∧ Below w.heap.size w w' := by
  refine (holding_any g n cap w).mono ?_
  rintro e w' ⟨rfl, rfl⟩
  have hg : g < w.heap.size := by
    obtain ⟨u, hu⟩ := Option.isSome_iff_exists.1 (ht 0 (by omega)).1
    exact World.block_lt_of_cell? w _ hu
  refine ⟨w.heap.size + 1, w.heap.size, rfl, by omega, by omega, ?_, ((Below.refl _ _).alloc (Nat.le_refl _) _).alloc (by simp) _⟩
  exact {
    c0 := by rw [World.cell?_alloc_at _ _ _ _ (by simp)]; rfl
    c1 := by rw [World.cell?_alloc_at _ _ _ _ (by simp)]; rfl
    c2 := by rw [World.cell?_alloc_at _ _ _ _ (by simp)]; rfl
    c3 := by rw [World.cell?_alloc_at _ _ _ _ (by simp)]; rfl
    f := fun o => by rw [World.frozen?_alloc_at _ _ _ _ (by simp)]
    now := World.rangeAt_alloc (World.rangeAt_alloc hr _) _
    thr := World.there_alloc (World.there_alloc ht _) _
    len := hl
    was := (World.ownsMap_made w Tryd.prog 3 (secR (H := Unit))).alloc _
    ne1 := by omega
    ne2 := by omega
    ne3 := by omega
    n1 := h1
    n2 := h2
    keys := fun x hx => by simp [intKeys] at hx
    l0 := by omega
    l1 := by omega }
end Go.Proofs.YtmdjjnjhjojimaaDoor
