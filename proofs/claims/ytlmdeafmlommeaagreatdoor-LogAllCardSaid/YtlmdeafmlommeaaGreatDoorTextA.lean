import Derived.Test.YtlmdeafmlommeaaGreatDoorBegB
import Derived.Test.YtlmdeafmlommeaaGreatDoorNum
import Derived.Test.YtlmdeafmlommeaaGreatDoorDevI
namespace Go.Proofs.YtlmdeafmlommeaaGreatDoor
open Go.RowKit Go.Maps

theorem cutS_enc (n : Int) (r : List UInt8) (h0 : -9223372036854775808 ≤ n) (h1 : n ≤ 9223372036854775807) : cutS (encInt n ++ r) = some (n, r) := by
  have h8 := wid_le8 n h0 h1
  have hb : (UInt8.ofNat (wid n)).toNat = wid n := by rw [UInt8.toNat_ofNat']; omega
  have hl := encTo_length n (wid n)
  show cutS (UInt8.ofNat (wid n) :: (encTo n (wid n) ++ r)) = _
  unfold cutS
  simp only [hb]
  rw [if_neg (by rw [List.length_append, hl]; omega)]
  have ht : (encTo n (wid n) ++ r).take (wid n) = encTo n (wid n) := by rw [List.take_append_of_le_length (by omega), List.take_of_length_le (by omega)]
  have hd : (encTo n (wid n) ++ r).drop (wid n) = r := by rw [List.drop_append_of_le_length (by omega), List.drop_of_length_le (by omega), List.nil_append]
  have hj : joinB (encTo n (wid n)) = n := by
    by_cases hn : n = 0
    · subst hn; decide +kernel
    · exact joinB_encTo n (wid n) h8 (wid_fits n h0 h1 hn) (fun h => by have := wid_pos n hn; omega)
  rw [ht, hd, hj, if_pos rfl]
theorem rdInt_enc (n : Int) (r : List UInt8) (h0 : -9223372036854775808 ≤ n) (h1 : n ≤ 9223372036854775807) : rdInt (encInt n ++ r) 0 = (n, r, 0) := by
  unfold rdInt
  rw [if_pos rfl, cutS_enc n r h0 h1]
theorem rdText_enc (u r : List UInt8) (most : Int) (hu : u.length ≤ 1000000) : rdText (encInt u.length ++ (u ++ r)) 0 most = if most < u.length then ([], [], 1) else (u, r, 0) := by
  unfold rdText
  rw [rdInt_enc _ _ (by omega) (by omega), if_pos rfl]
  by_cases h : most < (u.length : Int)
  · rw [if_pos (by simp; omega), if_pos h]
  · rw [if_neg (by simp; omega), if_neg h]
    simp

theorem WrAt.own {w : World} {wb base : Nat} {s : List UInt8} {a : Option Addr} {c : Nat} (h : WrAt w wb base s a c) {g : Nat} (hg : (Value.slice a s.length c).ownBlock = some g) : base ≤ g ∧ g < w.heap.size := by
  obtain ⟨_, ⟨e, _⟩ | ⟨g', cap, cur, e, r1, r2, _⟩⟩ := h.row
  · rw [e] at hg; cases hg
  · rw [e] at hg
    cases hg
    exact ⟨r1, (Array.getElem?_eq_some_iff.1 r2).1⟩
theorem WrAt.alloc {w : World} {wb base : Nat} {s : List UInt8} {a : Option Addr} {c : Nat} (h : WrAt w wb base s a c) (o : Obj) : WrAt (w.alloc o) wb base s a c := {
  c0 := by rw [World.cell?_alloc_lt _ _ ⟨wb, 0, none⟩ h.lt]; exact h.c0
  f0 := ((Keeps.refl (fun _ => False) w).alloc o).frozen (p := ⟨wb, 0, none⟩) h.lt (fun e => e) |>.trans h.f0
  row := h.row.alloc _
  bs := by have := h.bs; simp; omega
  ne := h.ne }
theorem rtext_bad' {w : World} {rb : Nat} {s u r : List UInt8} {a : Option Addr} {c : Nat} {most : Int} (h : RdAt w rb s a c 0) (hs : s = encInt u.length ++ (u ++ r)) (hu : u.length ≤ 1000000) (hm : most < u.length) :
    Calls Tryz.prog 79 #[.pointer (some ⟨rb, 0, none⟩), .int .i64 most] w fun e w' => ∃ a' c', e = .returned (.string ⟨#[]⟩) ∧ RdAt w' rb [] a' c' 1 ∧ Keeps (fun i => i = rb) w w' := by
  have := rtext_any h most
  rw [hs, rdText_enc u r most hu, if_pos hm] at this
  exact this
theorem rtext_yes' {w : World} {rb : Nat} {s u r : List UInt8} {a : Option Addr} {c : Nat} {most : Int} (h : RdAt w rb s a c 0) (hs : s = encInt u.length ++ (u ++ r)) (hu : u.length ≤ 1000000) (hm : ¬ most < u.length) :
    Calls Tryz.prog 79 #[.pointer (some ⟨rb, 0, none⟩), .int .i64 most] w fun e w' => ∃ a' c', e = .returned (.string ⟨u.toArray⟩) ∧ RdAt w' rb r a' c' 0 ∧ Keeps (fun i => i = rb) w w' := by
  have := rtext_any h most
  rw [hs, rdText_enc u r most hu, if_neg hm] at this
  exact this
theorem rint_enc {w : World} {rb : Nat} {a : Option Addr} {c : Nat} {n : Int} (h : RdAt w rb (encInt n) a c 0) (h0 : -9223372036854775808 ≤ n) (h1 : n ≤ 9223372036854775807) :
    Calls Tryz.prog 78 #[.pointer (some ⟨rb, 0, none⟩)] w fun e w' => ∃ a' c', e = .returned (.int .i64 n) ∧ RdAt w' rb [] a' c' 0 ∧ Keeps (fun i => i = rb) w w' := by
  have := rint_any h
  rw [← List.append_nil (encInt n), rdInt_enc n [] h0 h1] at this
  exact this.mono (fun e w' ⟨a', c', x, y, z, _⟩ => ⟨a', c', x, y, z⟩)
theorem rend_at {w : World} {rb : Nat} {a : Option Addr} {c : Nat} {err : Int} (h : RdAt w rb [] a c err) : Calls Tryz.prog 80 #[.pointer (some ⟨rb, 0, none⟩)] w fun e w' => e = .returned (.int .i64 err) ∧ w' = w := by
  have := rend_any h
  rw [show rdEnd [] err = err from by unfold rdEnd; split <;> simp_all] at this
  exact this
end Go.Proofs.YtlmdeafmlommeaaGreatDoor
