import Derived.Test.YtmdjjnjhjojimaaDoorBinJ
namespace Go.Proofs.YtmdjjnjhjojimaaDoor
open Go.RowKit Go.Maps

theorem conv_to {w : World} {g o o2 c k : Nat} {r : List UInt8} (h : w.rangeAt g o (bytesV (r.take k))) (hk : (r.take k).length = k) (ho : 0 < c → o2 = o) (hc : r.length ≤ c) (hl : k ≤ r.length) :
    (convert 33 9 (.slice (some ⟨g, o2, none⟩) k c)).run Tryd.prog w = .ok (.string ⟨(r.take k).toArray⟩) w := by
  refine conv_bytes g o2 k c (r.take k) w hk ?_
  rcases Nat.eq_zero_or_pos k with hx | hx
  · subst hx; exact rangeAt_nil _ _ _
  · rw [ho (by omega)]; exact h

set_option maxRecDepth 100000 in
set_option maxHeartbeats 400000 in
theorem rtext_yes {w : World} {rb : Nat} (k : Nat) (most : Int) (r : List UInt8) (H : IntC w rb k r 0) (hm : (k : Int) ≤ most) (hl : k ≤ r.length) :
    Calls Tryd.prog 35 #[.pointer (some ⟨rb, 0, none⟩), .int .i64 most] w fun e w' => ∃ a' c', e = .returned (.string ⟨(r.take k).toArray⟩) ∧ RdAt w' rb (r.drop k) a' c' 0 ∧ Keeps (fun i => i = rb) w w' := by
  go_enter Tryd.func35, Tryd.ntmps35
  go_wp2_with fail
  refine H.mono ?_
  rintro e w1 ⟨a1, c1, rfl, h1, hk1, hsome⟩
  obtain ⟨g, o, rfl⟩ := hsome rfl
  clear hsome
  obtain ⟨hg, hr⟩ : g ≠ rb ∧ w1.rangeAt g o (bytesV r) := by
    rcases h1.sh with ⟨x, _⟩ | ⟨g', o', x, y, z⟩
    · cases x
    · cases x; exact ⟨y, z⟩
  have c0 := h1.c0
  have cf := h1.f 0
  have hcap := h1.hc
  have htl : (r.take k).length = k := by rw [List.length_take]; omega
  have hrt : w1.rangeAt g o (bytesV (r.take k)) ∧ w1.rangeAt g (o + k) (bytesV (r.drop k)) := by
    have : w1.rangeAt g o (bytesV (r.take k) ++ bytesV (r.drop k)) := by rw [← bytesV_append, List.take_append_drop]; exact hr
    rw [rangeAt_append, bytesV_length, htl] at this
    exact this
  have HR : Hid (w1.rangeAt g o (bytesV (r.take k)) ∧ w1.rangeAt g (o + k) (bytesV (r.drop k))) := hrt
  have HT : Hid ((r.take k).length = k) := htl
  clear hrt htl hr
  go_wp2_with (first
    | (go_at_call 34; refine (rerr_cell rb 0 _ h1.c1).mono ?_; rintro e w2 ⟨rfl, hw⟩; obtain rfl := hw.symm)
    | (refine wpList_slice_to rfl _ _ rfl g o r.length c1 k rfl rfl (by omega) ?_; intro o2 ho2; have hcv : (convert 33 9 (.slice (some ⟨g, o2, none⟩) k c1)).run Tryd.prog w1 = .ok (.string ⟨(r.take k).toArray⟩) w1 := conv_to HR.out.1 HT.out ho2 hcap hl; clear ho2)
    | (refine wpList_slice_from rfl _ _ rfl g o r.length c1 k rfl rfl (by omega) ?_; intro o3 ho3; have HO3 : Hid (k < c1 → o3 = o + k) := ho3; clear ho3))
  go_ret
  have hr3 : w1.rangeAt g o3 (bytesV (r.drop k)) := by
    rcases Nat.lt_or_ge k r.length with x | x
    · rw [HO3.out (by omega)]; exact HR.out.2
    · rw [List.drop_of_length_le x]; exact rangeAt_nil _ _ _
  have hl1 := h1.hl
  obtain ⟨h2, hk2⟩ := h1.stored (t := r.drop k) (c' := c1 - k) (l := r.length - k) (Same.refl w1) hg (by simp) hr3 (by simp; omega) (by simp; omega)
  exact ⟨_, _, rfl, h2, hk1.trans hk2⟩
end Go.Proofs.YtmdjjnjhjojimaaDoor
