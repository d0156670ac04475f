import Derived.Test.YtmdjjnjhjojimaaDoorBinI
namespace Go.Proofs.YtmdjjnjhjojimaaDoor
open Go.RowKit Go.Maps

/-- What Text reads. -/
def rdText (s : List UInt8) (err : Int) (most : Int) : List UInt8 × List UInt8 × Int :=
  if (rdInt s err).2.2 = 0 then
    if (rdInt s err).1 < 0 ∨ most < (rdInt s err).1 ∨ ((rdInt s err).2.1.length : Int) < (rdInt s err).1 then ([], [], 1)
    else ((rdInt s err).2.1.take (rdInt s err).1.toNat, (rdInt s err).2.1.drop (rdInt s err).1.toNat, 0)
  else ([], (rdInt s err).2.1, (rdInt s err).2.2)

theorem conv_bytes (g o k c : Nat) (s : List UInt8) (w : World) (hk : s.length = k) (hr : w.rangeAt g o (bytesV s)) : (convert 33 9 (.slice (some ⟨g, o, none⟩) k c)).run Tryd.prog w = .ok (.string ⟨s.toArray⟩) w := by
  subst hk
  exact run_convert_bytes_back w 33 9 5 ⟨g, o, none⟩ c s Tryd.underlying33 Tryd.underlying5 Tryd.underlying9 (fun j hj => by rw [Addr.add_mid]; exact hr j _ (by simp [bytesV, List.getElem?_eq_getElem hj, bV]))

/-- The contract of Int, as a walk takes it. -/
def IntC (w : World) (rb : Nat) (n : Int) (r : List UInt8) (e1 : Int) : Prop :=
  Calls Tryd.prog 33 #[.pointer (some ⟨rb, 0, none⟩)] w fun e w' => ∃ a' c', e = .returned (.int .i64 n) ∧ RdAt w' rb r a' c' e1 ∧ Keeps (fun i => i = rb) w w' ∧ (e1 = 0 → ∃ g o, a' = some ⟨g, o, none⟩)

theorem rtext_err {w : World} {rb : Nat} (n most : Int) (r : List UInt8) (e1 : Int) (H : IntC w rb n r e1) (he : (e1 != 0) = true) :
    Calls Tryd.prog 35 #[.pointer (some ⟨rb, 0, none⟩), .int .i64 most] w fun e w' => ∃ a' c', e = .returned (.string ⟨#[]⟩) ∧ RdAt w' rb r a' c' e1 ∧ Keeps (fun i => i = rb) w w' := by
  go_enter Tryd.func35, Tryd.ntmps35
  go_wp2_with (first
    | (go_at_call 33; refine H.mono ?_; rintro e w1 ⟨a1, c1, rfl, h1, hk1, _⟩)
    | (go_at_call 34; refine (rerr_cell rb e1 _ h1.c1).mono ?_; rintro e w2 ⟨rfl, hw⟩; obtain rfl := hw.symm))
  go_ret
  exact ⟨a1, c1, rfl, h1, hk1⟩

theorem rtext_bad {w : World} {rb : Nat} (n most : Int) (r : List UInt8) (H : IntC w rb n r 0) (hb : n < 0 ∨ most < n ∨ (r.length : Int) < n) :
    Calls Tryd.prog 35 #[.pointer (some ⟨rb, 0, none⟩), .int .i64 most] w fun e w' => ∃ a' c', e = .returned (.string ⟨#[]⟩) ∧ RdAt w' rb [] a' c' 1 ∧ Keeps (fun i => i = rb) w w' := by
  by_cases hn : n < 0
  · go_enter Tryd.func35, Tryd.ntmps35
    go_wp2_with (first
      | (go_at_call 33; refine H.mono ?_; rintro e w1 ⟨a1, c1, rfl, h1, hk1, _⟩; have c0 := h1.c0)
      | (go_at_call 34; refine (rerr_cell rb 0 _ h1.c1).mono ?_; rintro e w2 ⟨rfl, hw⟩; obtain rfl := hw.symm)
      | (go_at_call 54; refine (rfail_at h1).mono ?_; rintro e w3 ⟨rfl, h3, hk3⟩))
    go_ret
    exact ⟨none, 0, rfl, h3, hk1.trans hk3⟩
  · by_cases hm : most < n
    · go_enter Tryd.func35, Tryd.ntmps35
      go_wp2_with (first
        | (go_at_call 33; refine H.mono ?_; rintro e w1 ⟨a1, c1, rfl, h1, hk1, _⟩; have c0 := h1.c0)
        | (go_at_call 34; refine (rerr_cell rb 0 _ h1.c1).mono ?_; rintro e w2 ⟨rfl, hw⟩; obtain rfl := hw.symm)
        | (go_at_call 54; refine (rfail_at h1).mono ?_; rintro e w3 ⟨rfl, h3, hk3⟩))
      go_ret
      exact ⟨none, 0, rfl, h3, hk1.trans hk3⟩
    · have hl : (r.length : Int) < n := by omega
      go_enter Tryd.func35, Tryd.ntmps35
      go_wp2_with (first
        | (go_at_call 33; refine H.mono ?_; rintro e w1 ⟨a1, c1, rfl, h1, hk1, _⟩; have c0 := h1.c0)
        | (go_at_call 34; refine (rerr_cell rb 0 _ h1.c1).mono ?_; rintro e w2 ⟨rfl, hw⟩; obtain rfl := hw.symm)
        | (go_at_call 54; refine (rfail_at h1).mono ?_; rintro e w3 ⟨rfl, h3, hk3⟩))
      go_ret
      exact ⟨none, 0, rfl, h3, hk1.trans hk3⟩
end Go.Proofs.YtmdjjnjhjojimaaDoor
