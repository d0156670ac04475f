import Derived.Test.YtlmdeafmlommeaaGreatDoorLgD
namespace Go.Proofs.YtlmdeafmlommeaaGreatDoor
open Go.RowKit Go.Maps

/-- The places of the slots and the ring. -/
def lowH (n : Nat) (p : Nat) : Prop := p < 64 * (n / 2)
theorem wpos_lowH {n a c p : Nat} (hn : 64 ≤ n) (h : wpos n a c p) : lowH n p := by
  obtain ⟨j, _, rfl⟩ := h
  have hr : ringN n = (n / 2 - 2) * 64 := rfl
  have hm := Nat.mod_lt (a + j) (show 0 < ringN n by unfold ringN; omega)
  generalize (a + j) % ringN n = q at hm ⊢
  unfold lowH
  omega
theorem lowP_lowH {n p : Nat} (hn : 64 ≤ n) (h : lowP p) : lowH n p := by
  unfold lowP at h
  unfold lowH
  omega
/-- An Append touches the slots and the ring alone. -/
theorem append_alike {n : Nat} (hn : 64 ≤ n) (hn2 : n ≤ 4096) {B : List UInt8} {a : Nat} {R : List (List UInt8)} {x y : Int} (h : LogOn n B a R x y) {s : List UInt8} (hz : (encR R).length + (s.length + 2) ≤ ringN n) {left left' : Int} {down down' : Bool} {code : Int} {B' : List UInt8} {D' : DataW Unit} (hO : ApO n B left down a (encR R).length x y s code B' D' left' down') : Alike (lowH n) B B' := by
  rcases hO with ⟨_, _, _, d, hW⟩ | ⟨B1, left1, down1, hW, _, hS⟩
  · exact hW.al.mono (fun p hp => wpos_lowH hn hp)
  · have hf : AllFit [(a : Int), ((((encR R).length + (s.length + 2) : Nat)) : Int), x, y] := fit4 hn2 h.al hz h.fit2
    have hlow := save_low (by omega) (hW.al.1.trans h.len) (by simp) hf hS
    exact (hW.al.mono (fun p hp => wpos_lowH hn hp)).trans (hlow.1.mono (fun p hp => lowP_lowH hn hp))
theorem cutB_alike {n : Nat} {B B' : List UInt8} (hA : Alike (lowH n) B B') {a : Nat} (ha : n / 2 ≤ a) (l : Nat) : cutB B' a l = cutB B a l := by
  have hl : (cutB B' a l).length = (cutB B a l).length := by unfold cutB; rw [List.length_take, List.length_drop, List.length_take, List.length_drop, hA.1]
  refine list_ext_getD hl (fun k hk => ?_)
  have hkl : k < l := by unfold cutB at hk; rw [List.length_take] at hk; omega
  have e : ∀ X : List UInt8, (cutB X a l).getD k 0 = X.getD (64 * a + k) 0 := fun X => by
    unfold cutB
    simp only [List.getD, List.getElem?_take, List.getElem?_drop, if_pos hkl]
  rw [e, e]
  exact hA.2 _ (by unfold lowH; omega)
section
variable {base n : Nat} {w w' : World} {db nb mb cap k lb sb : Nat} {B : List UInt8}
theorem Seat.lt5 (h : Seat base w db nb mb n cap k lb sb B) : ∀ i, five db nb mb sb lb i → base ≤ i ∧ i < w.heap.size := fun i e => by
  have h1 := h.d.dlt
  have h2 := h.d.nlt
  have h3 := h.d.mlt
  have h4 := h.s.lt
  have h5 := h.l.lt
  have h6 := h.low
  unfold five at e
  omega
theorem Seat.turn (h : Seat base w db nb mb n cap k lb sb B) {mb' k' : Nat} {B' : List UInt8} (hk : Keeps (five db nb mb sb lb) w w') (hm : mb' = mb ∨ w.heap.size ≤ mb') (hb : base ≤ w.heap.size) (hd : DevAt w' db nb mb' n cap B' k' (.map []) 0 false) (hl : LgAt w' lb db n sb false 0 0 0 0) (hs : SlAt w' sb db false) : Seat base w' db nb mb' n cap k' lb sb B' := by
  have h1 := h.ne
  have h2 := h.nl
  have h3 := h.low
  have h4 := hk.size
  have h6 := h.s.lt
  have h7 := h.l.lt
  exact ⟨hd, hl, hs, ⟨h1.1, h1.2.1, by omega⟩, ⟨h2.1, h2.2.1, by omega, h2.2.2.2⟩, by omega⟩
/-- An Append that nothing cuts off leaves the texts. -/
theorem append_text (h : Seat base w db nb mb n cap k lb sb B) {a : Nat} {R : List (List UInt8)} {x y : Int} (hlog : LogOn n B a R x y) (g o bc : Nat) (s : List UInt8) (m : Nat) (hm : s.length = m) (hs0 : 1 ≤ m) (hs1 : m ≤ 1000) (hz : (encR R).length + (m + 2) ≤ ringN n) (hsrc : w.rangeAt g o (bytesV s)) (hbw : base ≤ w.heap.size) (hk : k ≤ 1000) :
    Calls Tryz.prog 18 #[.pointer (some ⟨lb, 0, none⟩), .slice (some ⟨g, o, none⟩) m bc] w fun e w' => e = .returned (.int .i64 0) ∧ ∃ mb' k' B', k' ≤ 1 ∧ Seat base w' db nb mb' n cap k' lb sb B' ∧ LogOn n B' a (R ++ [s]) x y ∧ Keeps (five db nb mb sb lb) w w' ∧ ∀ a l, n / 2 ≤ a → cutB B' a l = cutB B a l := by
  subst hm
  have hn1 := h.d.n1
  have hn2 := h.d.n2
  refine (append_at h.l h.d h.s h.ne h.nl hk a (encR R).length x y hlog.tl hlog.al hlog.fit2 g o bc s hs0 hs1 hz hsrc).mono ?_
  rintro e w8 ⟨code8, mb8, k8, B8, D8, left8, down8, rfl, hd8, hk8, hk8', hm8, hK8, hO8, ⟨ov, hSl8, hov⟩, hL8, _⟩
  have hA := append_alike hn1 hn2 hlog hz hO8
  obtain ⟨rfl, rfl, rfl, rfl, hlog8⟩ := append_calm hn1 hn2 hlog ⟨hs0, hs1⟩ hz hO8
  obtain rfl := hov rfl
  exact ⟨rfl, mb8, k8, B8, hk8' rfl, h.turn hK8 hm8 hbw hd8 (hL8 rfl) hSl8, hlog8, hK8, fun a l ha => cutB_alike hA ha l⟩
/-- A Put that nothing cuts off. -/
theorem put_seat (h : Seat base w db nb mb n cap k lb sb B) {a : Nat} {R : List (List UInt8)} {x y : Int} (hlog : LogOn n B a R x y) (g bc : Nat) (s : List UInt8) (m : Nat) (hm : s.length = m) (hs : m ≤ n / 4 * 64) (hbc : m ≤ bc) (hB : BlkAt w g s) (hg : ¬ five db nb mb sb lb g) (hbw : base ≤ w.heap.size) (hk : k ≤ 1000) :
    Calls Tryz.prog 28 #[.pointer (some ⟨db, 0, none⟩), .pointer (some ⟨lb, 0, none⟩), .slice (some ⟨g, 0, none⟩) m bc] w fun e w' => e = .returned (.int .i64 0) ∧ ∃ mb' k' B' q, k' ≤ 1 ∧ Seat base w' db nb mb' n cap k' lb sb B' ∧ LogOn n B' q [] (otherA x) (m : Int) ∧ cutB B' (areaAt n (otherA x)) m = s ∧ Keeps (five db nb mb sb lb) w w' := by
  refine (sput_calm_at h.l h.d h.s h.ne h.nl hk hlog (some ⟨g, 0, none⟩) bc s m hm hs hbc (fun _ => ⟨g, 0, rfl, hB.lt, ?_, hB.range⟩)).mono ?_
  · unfold five at hg; omega
  · rintro e w8 ⟨mb8, k8, B8, q8, rfl, hd8, hk8, hm8, hK8, hS8, hL8, hlog8, htxt⟩
    exact ⟨rfl, mb8, k8, B8, q8, hk8, h.turn hK8 hm8 hbw hd8 hL8 hS8, hlog8, htxt, hK8⟩
end
theorem BlkAt.nomap {w : World} {g mb : Nat} {s : List UInt8} (h : BlkAt w g s) (hm : NoRow w mb) : g ≠ mb := by
  rintro rfl
  obtain ⟨cur, hH, _⟩ := h
  exact hm _ _ hH
/-- Bytes as a string. -/
theorem conv_SlB {w : World} {v : Value} {s : List UInt8} (h : SlB w v s) : (convert 34 9 v).run Tryz.prog w = .ok (.string ⟨s.toArray⟩) w := by
  obtain ⟨p, c, rfl, hp⟩ := h
  by_cases hs : s = []
  · subst hs
    cases p with
    | none => exact run_convert_bytes_nil w 34 5 Tryz.underlying34 Tryz.underlying5 _ _ 9 Tryz.underlying9
    | some ad => exact run_convert_bytes_back w 34 9 5 ad c [] Tryz.underlying34 Tryz.underlying5 Tryz.underlying9 (fun j hj => absurd hj (Nat.not_lt_zero _))
  · obtain ⟨g, o, rfl, hr⟩ := hp hs
    exact conv_bytes g o s.length c s w rfl hr
theorem SlB.below {w w' : World} {v : Value} {s : List UInt8} (h : SlB w v s) (hb : Below w.heap.size w w') : SlB w' v s := by
  obtain ⟨p, c, rfl, hp⟩ := h
  refine ⟨p, c, rfl, fun hs => ?_⟩
  obtain ⟨g, o, rfl, hr⟩ := hp hs
  exact ⟨g, o, rfl, fun j v hv => (hb.cell (p := ⟨g, o + j, none⟩) (World.block_lt_of_cell? w _ (hr j v hv))).trans (hr j v hv)⟩
end Go.Proofs.YtlmdeafmlommeaaGreatDoor
