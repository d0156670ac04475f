import Derived.Test.YtmdjjnjhjojimacDoorBegB
import Derived.Test.YtmdjjnjhjojimacDoorNum
namespace Go.Proofs.YtmdjjnjhjojimacDoor
open Go.RowKit Go.Maps

theorem cutS_enc (n : Int) (r : List UInt8) (h0 : -9223372036854775808 ≤ n) (h1 : n ≤ 9223372036854775807) : cutS (encInt n ++ r) = some (n, r) := by
  have h8 := wid_le8 n h0 h1
  have hb : (UInt8.ofNat (wid n)).toNat = wid n := by rw [UInt8.toNat_ofNat']; omega
  have hl := encTo_length n (wid n)
  show cutS (UInt8.ofNat (wid n) :: (encTo n (wid n) ++ r)) = _
  unfold cutS
  simp only [hb]
  rw [if_neg (by rw [List.length_append, hl]; omega)]
  have ht : (encTo n (wid n) ++ r).take (wid n) = encTo n (wid n) := by rw [List.take_append_of_le_length (by omega), List.take_of_length_le (by omega)]
  have hd : (encTo n (wid n) ++ r).drop (wid n) = r := by rw [List.drop_append_of_le_length (by omega), List.drop_of_length_le (by omega), List.nil_append]
  have hj : joinB (encTo n (wid n)) = n := by
    by_cases hn : n = 0
    · subst hn; decide +kernel
    · exact joinB_encTo n (wid n) h8 (wid_fits n h0 h1 hn) (fun h => by have := wid_pos n hn; omega)
  rw [ht, hd, hj, if_pos rfl]
theorem rdInt_enc (n : Int) (r : List UInt8) (h0 : -9223372036854775808 ≤ n) (h1 : n ≤ 9223372036854775807) : rdInt (encInt n ++ r) 0 = (n, r, 0) := by
  unfold rdInt
  rw [if_pos rfl, cutS_enc n r h0 h1]
theorem WrAt.own {w : World} {wb base : Nat} {s : List UInt8} {a : Option Addr} {c : Nat} (h : WrAt w wb base s a c) {g : Nat} (hg : (Value.slice a s.length c).ownBlock = some g) : base ≤ g ∧ g < w.heap.size := by
  obtain ⟨_, ⟨e, _⟩ | ⟨g', cap, cur, e, r1, r2, _⟩⟩ := h.row
  · rw [e] at hg; cases hg
  · rw [e] at hg
    cases hg
    exact ⟨r1, (Array.getElem?_eq_some_iff.1 r2).1⟩
theorem WrAt.alloc {w : World} {wb base : Nat} {s : List UInt8} {a : Option Addr} {c : Nat} (h : WrAt w wb base s a c) (o : Obj) : WrAt (w.alloc o) wb base s a c := {
  c0 := by rw [World.cell?_alloc_lt _ _ ⟨wb, 0, none⟩ h.lt]; exact h.c0
  f0 := ((Keeps.refl (fun _ => False) w).alloc o).frozen (p := ⟨wb, 0, none⟩) h.lt (fun e => e) |>.trans h.f0
  row := h.row.alloc _
  bs := by have := h.bs; simp; omega
  ne := h.ne }
/-- Numbers that an int64 holds. -/
def AllFit (l : List Int) : Prop := ∀ x ∈ l, -9223372036854775808 ≤ x ∧ x ≤ 9223372036854775807
theorem enc_head {x y : Int} {A B : List UInt8} (hx : -9223372036854775808 ≤ x ∧ x ≤ 9223372036854775807) (hy : -9223372036854775808 ≤ y ∧ y ≤ 9223372036854775807) (h : encInt x ++ A = encInt y ++ B) : x = y ∧ A = B := by
  have h1 := cutS_enc x A hx.1 hx.2
  rw [h, cutS_enc y B hy.1 hy.2] at h1
  simp only [Option.some.injEq, Prod.mk.injEq] at h1
  exact ⟨h1.1.symm, h1.2.symm⟩
theorem flat_inj : ∀ a b : List Int, AllFit a → AllFit b → a.flatMap encInt = b.flatMap encInt → a = b
  | [], [], _, _, _ => rfl
  | [], y :: b, _, _, h => by simp [encInt] at h
  | x :: a, [], _, _, h => by simp [encInt] at h
  | x :: a, y :: b, ha, hb, h => by
    rw [List.flatMap_cons, List.flatMap_cons] at h
    obtain ⟨rfl, h2⟩ := enc_head (ha x (by simp)) (hb y (by simp)) h
    rw [flat_inj a b (fun z hz => ha z (by simp [hz])) (fun z hz => hb z (by simp [hz])) h2]
/-- None's bytes begin another's of as many. -/
theorem flat_prefix : ∀ (a b : List Int) (r : List UInt8), AllFit a → AllFit b → a.length = b.length → b.flatMap encInt = a.flatMap encInt ++ r → a = b
  | [], [], _, _, _, _, _ => rfl
  | [], _ :: _, _, _, _, h, _ => by simp at h
  | _ :: _, [], _, _, _, h, _ => by simp at h
  | x :: a, y :: b, r, ha, hb, hl, h => by
    rw [List.flatMap_cons, List.flatMap_cons, List.append_assoc] at h
    obtain ⟨rfl, h2⟩ := enc_head (hb y (by simp)) (ha x (by simp)) h
    rw [flat_prefix a b r (fun z hz => ha z (by simp [hz])) (fun z hz => hb z (by simp [hz])) (by simpa using hl) h2]
/-- A Writer stays while other blocks turn. -/
theorem WrAt.keeps {S : Nat → Prop} {w w' : World} {wb base : Nat} {s : List UInt8} {a : Option Addr} {c : Nat} (h : WrAt w wb base s a c) (hk : Keeps S w w') (s1 : ¬ S wb) (s2 : ∀ g, (Value.slice a s.length c).ownBlock = some g → ¬ S g) : WrAt w' wb base s a c := {
  c0 := (hk.cell (p := ⟨wb, 0, none⟩) h.lt s1).trans h.c0
  f0 := (hk.frozen (p := ⟨wb, 0, none⟩) h.lt s1).trans h.f0
  row := by
    obtain ⟨hl, ⟨e, h0⟩ | ⟨g, cap, cur, e, r1, r2, r3⟩⟩ := h.row
    · exact ⟨hl, Or.inl ⟨e, h0⟩⟩
    · refine ⟨hl, Or.inr ⟨g, cap, cur, e, r1, ?_, r3⟩⟩
      rw [hk.block g (Array.getElem?_eq_some_iff.1 r2).1 (s2 g (by rw [e]; rfl))]; exact r2
  bs := Nat.le_trans h.bs hk.size
  ne := h.ne }

/-- Int of no numbers. -/
theorem int_zero {w : World} {wb : Nat} (ka : Option Addr) (kc : Nat) :
    Calls Tryd.prog 6 #[.pointer (some ⟨wb, 0, none⟩), .slice ka 0 kc] w fun e w' => e = .returned (.tuple #[]) ∧ w' = w := by
  go_enter Tryd.func6, Tryd.ntmps6
  go_wp2
  refine wp_loop_rounds 1 ?_
  rw [rounds_succ]
  go_wp2
  first | go_end0 | refine bodyPost_ret (results_none rfl _ _ _) rfl ?_
  exact ⟨rfl, rfl⟩

theorem elem22 : Tryd.prog.elem 22 = 2 := by kernel_rfl
/-- 'x[:k]' of a slice of int64. -/
theorem slice_head (a : Option Addr) (n c k : Nat) (hk : k ≤ c) (W : World) : (Instr.sliceAt 22 (.slice a n c) none (some (.int .i64 (k : Int))) none).run Tryd.prog W = .ok (.slice a k c) W := by
  have hu : Tryd.prog.underlying 22 = some (.slice (Tryd.prog.elem 22)) := by rw [elem22]; exact Tryd.underlying22
  have hs := Tryd.sizeOf2 W
  rw [run_sliceAt_slice W 22 _ _ _ _ hu, run_slice_h W 22 _ n c hu .i64 k (by omega) (by omega), elem22, hs]
  cases a with
  | none => simp [Result.andThen, sliced]
  | some p => simp [Result.andThen, sliced, Addr.add]
/-- Numbers that a slice reads. -/
structure IntsAt (w : World) (L : Nat) (a : Option Addr) (n : Nat) (A : List Int) : Prop where
  len : A.length = n
  fit : AllFit A
  at_ : n = 0 ∨ ∃ b o, a = some ⟨b, o, none⟩ ∧ b < L ∧ w.rangeAt b o (A.map (Value.int .i64))
theorem IntsAt.head {w : World} {L : Nat} {a : Option Addr} {n : Nat} {A : List Int} (h : IntsAt w L a n A) (k : Nat) (hk : k ≤ n) : IntsAt w L a k (A.take k) := {
  len := by rw [List.length_take, h.len]; omega
  fit := fun x hx => h.fit x (List.mem_of_mem_take hx)
  at_ := by
    rcases h.at_ with h0 | ⟨b, o, e, hb, hr⟩
    · exact Or.inl (by omega)
    · refine Or.inr ⟨b, o, e, hb, fun j v hv => hr j v ?_⟩
      rw [List.map_take, List.getElem?_take] at hv
      split at hv
      · exact hv
      · cases hv }
theorem IntsAt.below {w w' : World} {L : Nat} {a : Option Addr} {n : Nat} {A : List Int} (h : IntsAt w L a n A) (hb : Below L w w') : IntsAt w' L a n A := {
  len := h.len
  fit := h.fit
  at_ := by
    rcases h.at_ with h0 | ⟨b, o, e, hl, hr⟩
    · exact Or.inl h0
    · exact Or.inr ⟨b, o, e, hl, fun j v hv => (hb.cell (p := ⟨b, o + j, none⟩) hl).trans (hr j v hv)⟩ }
theorem IntsAt.cell {w : World} {L : Nat} {a : Option Addr} {n : Nat} {A : List Int} (h : IntsAt w L a n A) (j : Nat) (hj : j < n) : ∃ b o, a = some ⟨b, o, none⟩ ∧ w.cell? ⟨b, o + j, none⟩ = some (.int .i64 (A.getD j 0)) := by
  rcases h.at_ with h0 | ⟨b, o, e, hl, hr⟩
  · omega
  · have := h.len
    exact ⟨b, o, e, hr j _ (by rw [List.getElem?_map, List.getElem?_eq_getElem (by omega)]; simp [List.getD, List.getElem?_eq_getElem (show j < A.length by omega)])⟩

/-- Int of numbers that a slice reads. -/
theorem int_ints {w : World} {wb base : Nat} {s : List UInt8} {a : Option Addr} {c : Nat} (h : WrAt w wb base s a c) {L : Nat} (ka : Option Addr) (kn kc : Nat) (A : List Int) (hA : IntsAt w L ka kn A) (hL1 : L ≤ wb) (hL2 : L ≤ base) (hm : s.length + 10 * kn ≤ 1000000000) :
    Calls Tryd.prog 6 #[.pointer (some ⟨wb, 0, none⟩), .slice ka kn kc] w fun e w' => ∃ a' c', e = .returned (.tuple #[]) ∧ WrAt w' wb base (s ++ A.flatMap encInt) a' c' ∧ Keeps (WrMay wb (.slice a s.length c)) w w' := by
  rcases hA.at_ with h0 | ⟨b, o, rfl, hl, hr⟩
  · subst h0
    have hA0 : A = [] := List.eq_nil_of_length_eq_zero hA.len
    subst hA0
    refine (int_zero ka kc).mono ?_
    rintro e w' ⟨rfl, rfl⟩
    exact ⟨a, c, rfl, by simpa using h, Keeps.refl _ _⟩
  · have := hA.len
    subst this
    refine (int_any h b o kc A hr (by omega) (fun e => by have := (h.own e).1; omega) hA.fit hm).mono ?_
    rintro e w' ⟨a', c', rfl, h1, h2, _⟩
    exact ⟨a', c', rfl, h1, h2⟩
end Go.Proofs.YtmdjjnjhjojimacDoor
