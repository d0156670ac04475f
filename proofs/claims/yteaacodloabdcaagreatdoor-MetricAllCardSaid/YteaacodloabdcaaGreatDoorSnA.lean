import Derived.Test.YteaacodloabdcaaGreatDoorWlM
namespace Go.Proofs.YteaacodloabdcaaGreatDoor
open Go.RowKit Go.Maps

theorem ssectors_at {w : World} {db nb n cap : Nat} (h0 : w.cell? ⟨db, 0, none⟩ = some (.slice (some ⟨nb, 0, none⟩) n cap)) (h2 : n ≤ 4096) : Calls Tryz.prog 165 #[.pointer (some ⟨db, 0, none⟩)] w fun e w' => e = .returned (.int .i64 ((n / 4 : Nat) : Int)) ∧ w' = w := by
  go_enter Tryz.func165, Tryz.ntmps165
  go_wp2_with fail
  refine (sectors_any h0).mono ?_
  rintro e w' ⟨rfl, hw⟩
  subst hw
  go_wp2_with fail
  go_ret
  exact ⟨by go_num, rfl⟩
theorem most_at {w : World} {db nb n cap : Nat} (h0 : w.cell? ⟨db, 0, none⟩ = some (.slice (some ⟨nb, 0, none⟩) n cap)) (h2 : n ≤ 4096) : Calls Tryz.prog 134 #[.pointer (some ⟨db, 0, none⟩)] w fun e w' => e = .returned (.int .i64 ((n / 4 * 64 : Nat) : Int)) ∧ w' = w := by
  go_enter Tryz.func134, Tryz.ntmps134
  go_wp2_with fail
  refine (ssectors_at h0 h2).mono ?_
  rintro e w' ⟨rfl, hw⟩
  subst hw
  go_wp2_with fail
  go_ret
  exact ⟨by go_num, rfl⟩
theorem other_at (x : Int) (w : World) : Calls Tryz.prog 136 #[.int .i64 x] w fun e w' => e = .returned (.int .i64 (if x = 1 then 2 else 1)) ∧ w' = w := by
  by_cases h : x = 1
  · subst h
    go_enter Tryz.func136, Tryz.ntmps136
    go_wp2_with fail
    go_ret
    exact ⟨rfl, rfl⟩
  · have hb : (x == 1) = false := by simpa using h
    rw [if_neg h]
    clear h
    go_enter Tryz.func136, Tryz.ntmps136
    go_wp2_with fail
    go_ret
    exact ⟨rfl, rfl⟩
theorem begin_at {w : World} {db nb n cap : Nat} (h0 : w.cell? ⟨db, 0, none⟩ = some (.slice (some ⟨nb, 0, none⟩) n cap)) (h2 : n ≤ 4096) (x : Int) : Calls Tryz.prog 138 #[.pointer (some ⟨db, 0, none⟩), .int .i64 x] w fun e w' => e = .returned (.int .i64 ((n / 2 + (if x = 2 then n / 4 else 0) : Nat) : Int)) ∧ w' = w := by
  by_cases h : x = 2
  · subst h
    go_enter Tryz.func138, Tryz.ntmps138
    go_wp2_with fail
    refine (sectors_any h0).mono ?_
    rintro e w' ⟨rfl, hw⟩
    subst hw
    go_wp2_with fail
    refine (ssectors_at h0 h2).mono ?_
    rintro e w2 ⟨rfl, hw⟩
    subst hw
    go_wp2_with fail
    go_ret
    exact ⟨by go_num, rfl⟩
  · have hb : (x == 2) = false := by simpa using h
    rw [if_neg h]
    clear h
    go_enter Tryz.func138, Tryz.ntmps138
    go_wp2_with fail
    refine (sectors_any h0).mono ?_
    rintro e w' ⟨rfl, hw⟩
    subst hw
    go_wp2_with fail
    go_ret
    exact ⟨by go_num, rfl⟩
theorem isarea_at (x : Int) (w : World) : Calls Tryz.prog 140 #[.int .i64 x] w fun e w' => e = .returned (.bool (decide (x = 0 ∨ x = 1 ∨ x = 2))) ∧ w' = w := by
  by_cases h : x = 0
  · subst h
    go_enter Tryz.func140, Tryz.ntmps140
    go_wp2_with fail
    go_ret
    exact ⟨rfl, rfl⟩
  · by_cases h1 : x = 1
    · subst h1
      go_enter Tryz.func140, Tryz.ntmps140
      go_wp2_with fail
      go_ret
      exact ⟨rfl, rfl⟩
    · have e0 : (x == 0) = false := by simpa using h
      have e1 : (x == 1) = false := by simpa using h1
      have e2 : decide (x = 0 ∨ x = 1 ∨ x = 2) = (x == 2) := by simp [h, h1]; rfl
      rw [e2]
      clear e2 h h1
      go_enter Tryz.func140, Tryz.ntmps140
      go_wp2_with fail
      go_ret
      exact ⟨rfl, rfl⟩
end Go.Proofs.YteaacodloabdcaaGreatDoor

namespace Go.Proofs.YteaacodloabdcaaGreatDoor
open Go.RowKit Go.Maps

/-- The places of some sectors. -/
def areaP (a c : Nat) (p : Nat) : Prop := 64 * a ≤ p ∧ p < 64 * (a + c)
/-- A piece of a text as a sector. -/
def padS (y : List UInt8) : List UInt8 := y ++ List.replicate (64 - y.length) 0
theorem padS_len {y : List UInt8} (h : y.length ≤ 64) : (padS y).length = 64 := by unfold padS; rw [List.length_append, List.length_replicate]; omega
theorem padS_getD {y : List UInt8} (k : Nat) (h : k < y.length) : (padS y).getD k 0 = y.getD k 0 := by
  unfold padS
  simp only [List.getD]
  rw [List.getElem?_append_left h]
/-- How many sectors some bytes take. -/
def secsN (l : Nat) : Nat := (l + 63) / 64
/-- Some bytes of a text are in an area. -/
structure SnW (B : List UInt8) (D : DataW Unit) (a : Nat) (s : List UInt8) (d : Nat) (B' : List UInt8) : Prop where
  al : Alike (areaP a (secsN s.length)) B B'
  aw : AlikeW (areaP a (secsN s.length)) B D
  wr : ∀ j, j < d → B'.getD (64 * a + j) 0 = s.getD j 0
theorem SnW.step {n : Nat} {B : List UInt8} {D : DataW Unit} {a : Nat} {s : List UInt8} {i : Nat} {B' : List UInt8} (h : SnW B D a s (64 * i) B') (hB' : B'.length = n * 64) (hm : IsMap D) (ha : a + secsN s.length ≤ n) (m : Nat) (hi : 64 * i < s.length) (hm1 : m ≤ 64) (hm2 : 64 * i + m ≤ s.length) :
    SnW B (wput D (a + i) (sec B' (a + i))) a s (64 * i + m) (put B' (a + i) (padS ((s.drop (64 * i)).take m))) := by
  have hyl : ((s.drop (64 * i)).take m).length = m := by simp; omega
  have hpl := padS_len (y := (s.drop (64 * i)).take m) (by omega)
  have hic : i < secsN s.length := by unfold secsN; omega
  refine ⟨h.al.write hB' (by omega) hpl (fun k hk e => (e ⟨by omega, by omega⟩).elim), h.aw.write h.al hm _, fun j hj => ?_⟩
  rw [put_getD hB' (by omega) hpl]
  by_cases hji : j < 64 * i
  · rw [if_neg (by omega)]; exact h.wr j hji
  · rw [if_pos (by omega), show (64 * a + j) % 64 = j - 64 * i by omega, padS_getD _ (by omega)]
    simp only [List.getD, List.getElem?_take, List.getElem?_drop, if_pos (show j - 64 * i < m by omega)]
    rw [show 64 * i + (j - 64 * i) = j by omega]
/-- A sector of noughts as it is laid. -/
def zsk : Array Value := Array.replicate 64 (.int .u8 0)
theorem zsk_size : zsk.size = 64 := by unfold zsk; exact Array.size_replicate
theorem zsk_list : zsk.toList = List.replicate 64 (.int .u8 0) := by unfold zsk; simp
theorem mk64s (w : World) : (Instr.makeSlice 67 (.int .i64 64) (.int .i64 64)).run Tryz.prog w = .ok (.slice (some ⟨w.heap.size, 0, none⟩) 64 64) (w.alloc (.cells zsk 5)) := mkB 64 (by omega) w
/-- The state of a text's laying. -/
def SyI (db nb mb n cap : Nat) (B : List UInt8) (k : Nat) (left : Int) (down : Bool) (a : Nat) (s : List UInt8) (i d : Nat) (w1 wr : World) : Prop :=
  ∃ k' B' D' left' down', DevAt wr db nb mb n cap B' k' D' left' down' ∧ k' ≤ k + i ∧ Keeps (fun x => x = db ∨ x = nb ∨ x = mb) w1 wr ∧ SnW B D' a s d B' ∧ (left = 0 → down = false → left' = 0 ∧ down' = false)
/-- What a text's laying leaves. -/
def SyP (db nb mb n cap : Nat) (B : List UInt8) (k : Nat) (left : Int) (down : Bool) (a : Nat) (s : List UInt8) (w : World) (e : Ending) (w' : World) : Prop :=
  ∃ code mb' k' B' D' left' down' d, e = .returned (.int .i64 code) ∧ DevAt w' db nb mb' n cap B' k' D' left' down' ∧ k' ≤ k + s.length ∧ (mb' = mb ∨ w.heap.size ≤ mb') ∧ Keeps (fun x => x = db ∨ x = nb ∨ x = mb) w w' ∧ SnW B D' a s d B' ∧ (left = 0 → down = false → code = 0 ∧ left' = 0 ∧ down' = false) ∧ ((code = 0 ∧ d = s.length ∧ k' = 0 ∧ D' = .map []) ∨ (code = 9 ∧ down' = true))
set_option maxRecDepth 100000 in
set_option maxHeartbeats 2000000 in
theorem slay_at {w : World} {db nb mb n cap : Nat} {B : List UInt8} {k : Nat} {D : DataW Unit} {left : Int} {down : Bool} (h : DevAt w db nb mb n cap B k D left down) (a : Nat) (p : Option Addr) (bc : Nat) (s : List UInt8) (ha : a + secsN s.length ≤ n) (hbc : s.length ≤ bc) (hsrc : s ≠ [] → ∃ g o, p = some ⟨g, o, none⟩ ∧ g < w.heap.size ∧ (g ≠ db ∧ g ≠ nb ∧ g ≠ mb) ∧ w.rangeAt g o (bytesV s)) (hk : k ≤ 100000) (hD : AlikeW (areaP a (secsN s.length)) B D) :
    Calls Tryz.prog 137 #[.pointer (some ⟨db, 0, none⟩), .int .i64 (a : Int), .slice p s.length bc] w (SyP db nb mb n cap B k left down a s w) := by
  have hn2 := h.n2
  have hdl := h.dlt
  have hnl := h.nlt
  have hml := h.mlt
  have hsl : s.length ≤ 262144 := by unfold secsN at ha; omega
  have HI0 : Hid (SyI db nb mb n cap B k left down a s 0 0 w w) := ⟨k, B, D, left, down, h, by omega, Keeps.refl _ _, ⟨Alike.refl _ _, hD, fun j hj => by omega⟩, fun e1 e2 => ⟨e1, e2⟩⟩
  have HSrc : Hid (s ≠ [] → ∃ g o, p = some ⟨g, o, none⟩ ∧ g < w.heap.size ∧ (g ≠ db ∧ g ≠ nb ∧ g ≠ mb) ∧ w.rangeAt g o (bytesV s)) := hsrc
  clear hsrc hD h
  go_enter Tryz.func137, Tryz.ntmps137
  go_wp2_with fail
  go_loopw [1, 2] (fun s1 s2 wr => ∃ (i d : Nat) (q : Option Addr), d ≤ s.length ∧ (d < s.length → d = 64 * i) ∧ i ≤ secsN s.length ∧ s1 = .int .i64 ((a + i : Nat) : Int) ∧ s2 = .slice q (s.length - d) (bc - d) ∧ (d < s.length → ∃ g o, p = some ⟨g, o, none⟩ ∧ q = some ⟨g, o + d, none⟩) ∧ Hid (SyI db nb mb n cap B k left down a s i d w wr)) (fun _ s2 _ => sLen s2)
  case atStart => exact ⟨0, 0, p, Nat.zero_le _, fun _ => rfl, Nat.zero_le _, rfl, rfl, fun hlt => (by obtain ⟨g, o, rfl, _⟩ := HSrc.out (fun e => by rw [e] at hlt; exact absurd hlt (by decide)); exact ⟨g, o, rfl, rfl⟩), HI0⟩
  case round =>
    obtain ⟨i, d, q, hd, hdi, hic, rfl, rfl, hq, HI⟩ := hrel
    clear HI0
    by_cases hlt : d < s.length
    · have hne : s ≠ [] := fun e => by rw [e] at hlt; exact absurd hlt (by simp)
      obtain ⟨g, o, rfl, hgl, hgd, hsrc⟩ := HSrc.out hne
      obtain ⟨g', o', e1, rfl⟩ := hq hlt
      cases e1
      have HDi : Hid (d = 64 * i) := hdi hlt
      clear hdi
      have hmk := mk64s
      obtain ⟨kd, Bd, Dd, ld, dd, hdv, hkd, hK, hW, hz⟩ := HI.out
      have hKs := hK.size
      obtain ⟨m, hm⟩ : ∃ m, m = Nat.min (s.length - d) 64 := ⟨_, rfl⟩
      have hm1 : m ≤ 64 := by rw [hm]; exact Nat.min_le_right _ _
      have hm2 : m ≤ s.length - d := by rw [hm]; exact Nat.min_le_left _ _
      have hm3 : 0 < m := by rw [hm]; show 0 < min _ _; omega
      have HM : Hid (d + m < s.length → m = 64) := fun hh => by have : m = min (s.length - d) 64 := hm; omega
      have hin : a + i < n ∧ i + 1 ≤ secsN s.length := by have := HDi.out; unfold secsN at ha ⊢; omega
      have hyl : ((s.drop d).take m).length = m := by simp; omega
      have hBd := hdv.len
      have HS2 : Hid (SnW B (wput Dd (a + i) (sec Bd (a + i))) a s (d + m) (put Bd (a + i) (padS ((s.drop d).take m)))) := by
        have hdi := HDi.out
        subst hdi
        exact hW.step hBd hdv.isMap ha m hlt hm1 (by omega)
      have hpl := padS_len (y := (s.drop d).take m) (by omega)
      have hbA : Below wr.heap.size wr (wr.alloc (.cells zsk 5)) := (Below.refl _ _).alloc (Nat.le_refl _) _
      have hsA : (wr.alloc (.cells zsk 5)).heap.size = wr.heap.size + 1 := by simp
      have hAl := heap_alloc_last wr (.cells zsk 5)
      have hrun := run_copy_row (P := Tryz.prog) (wr.alloc (.cells zsk 5)) 67 67 3 5 wr.heap.size 0 64 64 ⟨g, o + d, none⟩ (s.length - d) (bc - d) zsk 5 (bytesV ((s.drop d).take m)) Tryz.underlying67 size5 hAl (by rw [bytesV_length, hyl, hm]) (by
        intro j v hv
        rw [Addr.add_mid]
        have hj : j < m := by
          have := (List.getElem?_eq_some_iff.1 hv).1
          rwa [bytesV_length, hyl] at this
        have hv2 : (bytesV s)[d + j]? = some v := by
          unfold bytesV at hv ⊢
          rw [List.map_take, List.map_drop, List.getElem?_take, if_pos hj, List.getElem?_drop] at hv
          exact hv
        have hcell := hsrc (d + j) v hv2
        rw [show o + d + j = o + (d + j) by omega]
        exact (hbA.cell (p := ⟨g, o + (d + j), none⟩) (by show g < _; omega)).trans ((hK.cell (p := ⟨g, o + (d + j), none⟩) (by show g < _; omega) (by show ¬ (g = db ∨ g = nb ∨ g = mb); omega)).trans hcell)) (by rw [bytesV_length, hyl, zsk_size]; omega) (bytesV_one _)
      have hgi : goInt (bytesV ((s.drop d).take m)).length = .int .i64 (m : Int) := by rw [bytesV_length, hyl]; rfl
      rw [hgi] at hrun
      have hblk4 := setRow_heap (wr.alloc (.cells zsk 5)) wr.heap.size _ (zsk.toList.take 0 ++ bytesV ((s.drop d).take m) ++ zsk.toList.drop (0 + (bytesV ((s.drop d).take m)).length)).toArray 5 (0, 0) hAl
      have hb4 : Below wr.heap.size wr ((wr.alloc (.cells zsk 5)).setRow wr.heap.size (zsk.toList.take 0 ++ bytesV ((s.drop d).take m) ++ zsk.toList.drop (0 + (bytesV ((s.drop d).take m)).length)).toArray) := below_setRow hbA (Nat.le_refl _) _
      have hr4 : ((wr.alloc (.cells zsk 5)).setRow wr.heap.size (zsk.toList.take 0 ++ bytesV ((s.drop d).take m) ++ zsk.toList.drop (0 + (bytesV ((s.drop d).take m)).length)).toArray).rangeAt wr.heap.size 0 (bytesV (padS ((s.drop d).take m))) := by
        intro j v hv
        rw [cell_of_row _ _ (0 + j) _ 5 (0, 0) hblk4]
        unfold padS at hv
        rw [bytesV_append, hyl] at hv
        have hz : bytesV (List.replicate (64 - m) 0) = List.replicate (64 - m) (.int .u8 0) := by unfold bytesV; rw [List.map_replicate]; rfl
        rw [hz] at hv
        rw [bytesV_length, hyl, zsk_list, Nat.zero_add, List.drop_replicate]
        simpa using hv
      have hdv4 := hdv.keeps (Keeps.of_below (S := fun _ => False) hb4) (fun e => e) (fun e => e) (fun e => e)
      have hmd := hdv.mlt
      have hK4 : Keeps (fun x => x = db ∨ x = nb ∨ x = mb) w _ := hK.trans (Keeps.of_below hb4)
      have HW : Hid (SnW B Dd a s d Bd) := hW
      clear hm hblk4 hgi hdv hK hW HI hAl
      generalize padS ((s.drop d).take m) = sp at hr4 hpl HS2
      generalize (zsk.toList.take 0 ++ bytesV ((s.drop d).take m) ++ zsk.toList.drop (0 + (bytesV ((s.drop d).take m)).length)).toArray = row at hrun hb4 hr4 hdv4 hK4
      go_wp2_with fail
      clear hrun hmk
      generalize (wr.alloc (.cells zsk 5)).setRow wr.heap.size row = w4 at hb4 hr4 hdv4 hK4 ⊢
      cases dd
      · refine (write_okv hdv4 _ (a + i) (by omega) hin.1 sp hpl wr.heap.size 0 64 hr4 (by omega) (by omega)).mono ?_
        rintro e w5 ⟨k5, hk5, rfl, h5, hK5⟩
        have HI5 : Hid (SyI db nb mb n cap B k left down a s (i + 1) (d + m) w w5) := by
          refine ⟨k5, _, _, _, _, h5, by omega, hK4.trans hK5, HS2.out, fun e1 e2 => ?_⟩
          obtain ⟨e3, _⟩ := hz e1 e2
          subst e3
          exact ⟨rfl, rfl⟩
        clear h5 hK5 hK4 hdv4 hr4 hb4 HS2 HW hz
        go_wp2_with fail
        have e1 : s.length - d - m = s.length - (d + m) := by omega
        have e2 : bc - d - m = bc - (d + m) := by omega
        rw [e1, e2]
        refine ⟨⟨i + 1, d + m, _, by omega, fun hh => ?_, hin.2, by congr 1, rfl, fun hh => ⟨g, o, rfl, ?_⟩, HI5⟩, by simp only [sLen]; omega⟩
        · have h1 := HM.out hh
          have h2 := HDi.out
          omega
        · rw [if_neg (by omega), Nat.add_assoc]
      · have HP : Hid (SyP db nb mb n cap B k left down a s w (.returned (.int .i64 9)) w4) := ⟨9, mb, kd, Bd, Dd, ld, true, d, rfl, hdv4, by unfold secsN at *; omega, .inl rfl, hK4, HW.out, fun e1 e2 => (by cases (hz e1 e2).2), Or.inr ⟨rfl, rfl⟩⟩
        refine (write_down hdv4.c3 _ _).mono ?_
        rintro e w5 ⟨rfl, hw5⟩
        subst hw5
        clear hK4 hdv4 hr4 hb4 HS2 HW hz
        go_wp2_with fail
        go_ret
        exact HP.out
    · have hdc : d = s.length := by omega
      subst hdc
      obtain ⟨kd, Bd, Dd, ld, dd, hdv, hkd, hK, hW, hz⟩ := HI.out
      have hKs := hK.size
      clear hq HI
      go_wp2_with fail
      cases dd with
      | false =>
        refine (flush_any hdv).mono ?_
        rintro e w3 ⟨rfl, f1, f2⟩
        have HP : Hid (SyP db nb mb n cap B k left down a s w (.returned (.int .i64 0)) w3) := by
          refine ⟨0, _, 0, Bd, _, _, _, s.length, rfl, f1, by omega, .inr (by omega), (hK.trans (f2.mono (fun i hi => .inl hi))), ⟨hW.al, AlikeW.nil _ _, hW.wr⟩, fun e1 e2 => ?_, .inl ⟨rfl, rfl, rfl, rfl⟩⟩
          obtain ⟨u2, _⟩ := hz e1 e2
          subst u2
          exact ⟨rfl, rfl, rfl⟩
        clear hdv hK hW hz f1 f2
        go_wp2_with fail
        go_ret
        exact HP.out
      | true =>
        refine (flush_down hdv.c3).mono ?_
        rintro e w3 ⟨rfl, hw3⟩
        subst hw3
        have HP : Hid (SyP db nb mb n cap B k left down a s w (.returned (.int .i64 9)) w3) := ⟨9, mb, kd, Bd, Dd, ld, true, s.length, rfl, hdv, by unfold secsN at *; omega, .inl rfl, hK, hW, fun e1 e2 => (by cases (hz e1 e2).2), .inr ⟨rfl, rfl⟩⟩
        clear hdv hK hW hz
        go_wp2_with fail
        go_ret
        exact HP.out
end Go.Proofs.YteaacodloabdcaaGreatDoor

namespace Go.Proofs.YteaacodloabdcaaGreatDoor
open Go.RowKit Go.Maps

/-- Some bytes of a device. -/
def cutB (B : List UInt8) (a l : Nat) : List UInt8 := (B.drop (64 * a)).take l
theorem cutB_len {B : List UInt8} {n a l : Nat} (h : B.length = n * 64) (ha : a + secsN l ≤ n) : (cutB B a l).length = l := by
  unfold cutB secsN at *
  rw [List.length_take, List.length_drop]
  omega
theorem cutB_step (B : List UInt8) (a i : Nat) : cutB B a (64 * (i + 1)) = cutB B a (64 * i) ++ sec B (a + i) := by
  unfold cutB sec
  rw [Nat.mul_add, List.take_add, List.drop_drop]
  congr 3
  omega
/-- Bytes in memory. -/
def SlB (w : World) (v : Value) (s : List UInt8) : Prop := ∃ p c, v = .slice p s.length c ∧ (s ≠ [] → ∃ g o, p = some ⟨g, o, none⟩ ∧ w.rangeAt g o (bytesV s))
set_option maxRecDepth 100000 in
set_option maxHeartbeats 2000000 in
theorem sload_at {w : World} {db nb mb n cap : Nat} {B : List UInt8} {k : Nat} {D : DataW Unit} {left : Int} {down : Bool} (h : DevAt w db nb mb n cap B k D left down) (a l : Nat) (ha : a + secsN l ≤ n) :
    Calls Tryz.prog 141 #[.pointer (some ⟨db, 0, none⟩), .int .i64 (a : Int), .int .i64 (l : Int)] w fun e w' => ∃ v, e = .returned (.tuple #[v, .int .i64 0]) ∧ SlB w' v (cutB B a l) ∧ Below w.heap.size w w' := by
  have hn2 := h.n2
  have hll : l ≤ 262144 := by unfold secsN at ha; omega
  have hB := h.len
  obtain ⟨i0, hi, hz0, hz1, hz2⟩ := info_parts info5
  have HD : Hid (DevAt w db nb mb n cap B k D left down) := h
  have hdl := h.dlt
  have hnl := h.nlt
  have hml := h.mlt
  clear h
  go_enter Tryz.func141, Tryz.ntmps141
  go_wp2_with fail
  go_loopw [1, 8] (fun s1 s6 wr => ∃ (i : Nat), (0 < i → 64 * (i - 1) < l) ∧ s1 = .int .i64 ((a + i : Nat) : Int) ∧ Hid (wr.ownsRow w.heap.size 5 1 s6 (64 * i) (bytesV (cutB B a (64 * i))) ∧ Below w.heap.size w wr)) (fun s1 _ _ => (a + l + 1) - (RowKit.intOf s1).toNat)
  case atStart => exact ⟨0, fun e => absurd e (by decide), rfl, World.ownsRow_nil _ _ _ _, Below.refl _ _⟩
  case round =>
    obtain ⟨i, hi64, rfl, HI⟩ := hrel
    obtain ⟨hO, hbr⟩ := HI.out
    have hsr := hbr.size
    by_cases hlt : 64 * i < l
    · have hin : a + i < n := by unfold secsN at ha; omega
      have hdv := HD.out.keeps (Keeps.of_below (S := fun _ => False) hbr) (fun e => e) (fun e => e) (fun e => e)
      obtain ⟨p8, c8, rfl⟩ : ∃ p c, u8 = .slice p (64 * i) c := by
        rcases hO.2 with ⟨rfl, h0⟩ | ⟨g, cap, cur, rfl, _⟩
        · exact ⟨none, 0, by rw [h0]⟩
        · exact ⟨_, _, rfl⟩
      clear hO
      go_wp2_with fail
      refine (read_blk hdv _ (a + i) (by omega) hin).mono ?_
      rintro e w3 ⟨g3, c3, cur3, rfl, l3, hg3, hc3, hs3, hcc3, hb3⟩
      have hs3' := hb3.size
      have hsl := sec_length hB hin
      have HO3 : Hid (w3.ownsRow w.heap.size 5 1 (.slice p8 (64 * i) c8) (64 * i) (bytesV (cutB B a (64 * i)))) := ownsRow_keep HI.out.1 (Keeps.of_below (S := fun _ => False) hb3) (fun _ _ e => e)
      have hb03 : Below w.heap.size w w3 := hbr.trans (hb3.mono hsr)
      have hnews : Hid (∀ j u, (bytesV (sec B (a + i)))[j]? = some u → w3.cell? (Addr.add ⟨g3, 0, none⟩ j) = some u) := by
        intro j u hj
        rw [← hc3, List.getElem?_take] at hj
        split at hj
        · rw [Addr.add_mid, Nat.zero_add, cell_of_row _ _ j _ 5 (0, 0) hg3]
          simpa using hj
        · exact absurd hj (by simp)
      have hq2 : 64 * i + 64 ≤ maxLen := by unfold maxLen; omega
      have hq3 : (64 * i + 64) * 1 ≤ 140737488355328 := by omega
      have hq4 : w.heap.size ≤ w3.heap.size := by omega
      have hnl2 : (bytesV (sec B (a + i))).length = 64 * 1 := by rw [bytesV_length, hsl]
      clear hg3 hc3 hdv HI
      go_wp2_with (at_builtin; refine wpList_append_own _ rfl _ _ 67 rfl w.heap.size 5 i0 (.int .u8 0) 1 1 Tryz.underlying67 hi hz0 hz1 hz2 rfl (by decide) _ (64 * i) _ rfl HO3.out ⟨g3, 0, none⟩ 64 c3 (bytesV (sec B (a + i))) rfl hnl2 hnews.out (bytesV_one _) hq2 hq3 hq4 ?_)
      intro v1 w5 hown1 hg1 hnil1
      have HI5 : Hid (w5.ownsRow w.heap.size 5 1 v1 (64 * (i + 1)) (bytesV (cutB B a (64 * (i + 1)))) ∧ Below w.heap.size w w5) := by
        refine ⟨?_, hb03.grown hg1 (by omega) (fun k e => ownBlock_lo HO3.out k e)⟩
        rw [cutB_step, bytesV_append]
        exact hown1
      clear hown1 hg1 hnil1 HO3 hnews hq2 hq3 hq4
      go_wp2_with fail
      refine ⟨⟨i + 1, fun _ => by omega, by congr 1, HI5⟩, by simp [RowKit.intOf]; omega⟩
    · have hil : 64 * i ≤ l + 63 := by omega
      rcases hO.2 with ⟨rfl, h0⟩ | ⟨g, cap8, cur, rfl, hg8, hH, hc1, hc2, hcs, htk⟩
      · have hl0 : l = 0 := by omega
        have hi0 : i = 0 := by omega
        subst hl0 hi0
        clear HI hO
        go_wp2_with fail
        go_ret2
        exact ⟨_, rfl, ⟨none, 0, rfl, fun e => absurd rfl e⟩, hbr⟩
      · rw [Nat.mul_one] at htk
        have HR : Hid (SlB wr (.slice (some ⟨g, 0, none⟩) l cap8) (cutB B a l)) := by
          refine ⟨_, cap8, by rw [cutB_len hB ha], fun _ => ⟨g, 0, rfl, fun j u hj => ?_⟩⟩
          have hj2 : (bytesV (cutB B a (64 * i)))[j]? = some u := by
            have hjl : j < l := by
              have := (List.getElem?_eq_some_iff.1 hj).1
              rwa [bytesV_length, cutB_len hB ha] at this
            unfold bytesV cutB at hj ⊢
            rw [List.map_take, List.getElem?_take, if_pos hjl] at hj
            rw [List.map_take, List.getElem?_take, if_pos (by omega)]
            exact hj
          rw [← htk, List.getElem?_take] at hj2
          split at hj2
          · rw [Nat.zero_add, cell_of_row _ _ j _ 5 (0, 0) hH]
            simpa using hj2
          · exact absurd hj2 (by simp)
        clear HI hO hH htk hcs
        go_wp2_with fail
        go_ret2
        exact ⟨_, rfl, HR.out, hbr⟩
end Go.Proofs.YteaacodloabdcaaGreatDoor

namespace Go.Proofs.YteaacodloabdcaaGreatDoor
open Go.RowKit Go.Maps

/-- The area that the next text goes to, and where it begins. -/
def otherA (x : Int) : Int := if x = 1 then 2 else 1
def areaAt (n : Nat) (x : Int) : Nat := n / 2 + (if x = 2 then n / 4 else 0)
theorem areaAt_fit {n l : Nat} {x : Int} (h : l ≤ n / 4 * 64) : areaAt n x + secsN l ≤ n := by
  unfold areaAt secsN
  split <;> omega
/-- What snap.Put leaves. -/
def SpP (lb sb db nb mb n cap : Nat) (B : List UInt8) (k : Nat) (left : Int) (down : Bool) (a z : Nat) (x y : Int) (s : List UInt8) (a' z' x' y' : Int) (w : World) (e : Ending) (w' : World) : Prop :=
  ∃ code mb' k' B' D' left' down', e = .returned (.int .i64 code) ∧ DevAt w' db nb mb' n cap B' k' D' left' down' ∧ k' ≤ k + s.length + 1 ∧ (code = 0 → k' ≤ 1) ∧ (mb' = mb ∨ w.heap.size ≤ mb') ∧ Keeps (fun i => i = db ∨ i = nb ∨ i = mb ∨ i = sb ∨ i = lb) w w' ∧
    ((code = 9 ∧ down' = true ∧ (left = 0 → down = false → False) ∧ (∃ d, SnW B D' (areaAt n (otherA x)) s d B') ∧ SlAt w' sb db false ∧ LgAt w' lb db n sb false a' z' x' y') ∨
     (∃ B1 left1 down1, SnW B (.map []) (areaAt n (otherA x)) s s.length B1 ∧ (left = 0 → down = false → left1 = 0 ∧ down1 = false) ∧ SaveO B1 (.map []) left1 down1 [(((a + z) % ringN n : Nat) : Int), 0, otherA x, (s.length : Int)] code B' D' left' down' ∧ SlAt w' sb db (code != 0) ∧ (code = 0 → LgAt w' lb db n sb false a' z' x' y') ∧ (code ≠ 0 → LgAt w' lb db n sb true a z x y)))
theorem told_area {B B1 : List UInt8} {a c : Nat} (h : Alike (areaP a c) B B1) (ha : 2 ≤ a) : told B1 = told B := told_alike h (fun p hp => by have := hp.1; omega)
theorem put_large {w : World} {db nb n cap : Nat} (h0 : w.cell? ⟨db, 0, none⟩ = some (.slice (some ⟨nb, 0, none⟩) n cap)) (h2 : n ≤ 4096) (v : Value) (p : Option Addr) (l c : Nat) (hl : n / 4 * 64 < l) : Calls Tryz.prog 87 #[.pointer (some ⟨db, 0, none⟩), v, .slice p l c] w fun e w' => e = .returned (.int .i64 11) ∧ w' = w := by
  go_enter Tryz.func87, Tryz.ntmps87
  go_wp2_with fail
  refine (most_at h0 h2).mono ?_
  rintro e w1 ⟨rfl, hw1⟩
  subst hw1
  go_wp2_with fail
  go_ret
  exact ⟨rfl, rfl⟩
set_option maxRecDepth 100000 in
set_option maxHeartbeats 2000000 in
theorem sput_at {w : World} {lb db nb mb n cap sb : Nat} {B : List UInt8} {k : Nat} {left : Int} {down : Bool} {a' z' x' y' : Int} (h : LgAt w lb db n sb false a' z' x' y') (hd : DevAt w db nb mb n cap B k (.map []) left down) (hS : SlAt w sb db false) (hne : sb ≠ db ∧ sb ≠ nb ∧ sb ≠ mb) (hlne : lb ≠ db ∧ lb ≠ nb ∧ lb ≠ mb ∧ lb ≠ sb) (hk : k ≤ 1000) (a z : Nat) (x y : Int) (ht : told B = some [(a : Int), z, x, y]) (ha : a < ringN n) (hz : z ≤ ringN n) (p : Option Addr) (bc : Nat) (s : List UInt8) (hs : s.length ≤ n / 4 * 64) (hbc : s.length ≤ bc) (hsrc : s ≠ [] → ∃ g o, p = some ⟨g, o, none⟩ ∧ g < w.heap.size ∧ (g ≠ db ∧ g ≠ nb ∧ g ≠ mb) ∧ w.rangeAt g o (bytesV s)) : Calls Tryz.prog 87 #[.pointer (some ⟨db, 0, none⟩), .pointer (some ⟨lb, 0, none⟩), .slice p s.length bc] w (SpP lb sb db nb mb n cap B k left down a z x y s a' z' x' y' w) := by
  have hn1 := hd.n1
  have hn2 := hd.n2
  have hdl := hd.dlt
  have hnl := hd.nlt
  have hml := hd.mlt
  have hll := h.lt
  have hsl := hS.lt
  have hc0 := hd.c0
  go_enter Tryz.func87, Tryz.ntmps87
  go_wp2_with fail
  refine (most_at hc0 hn2).mono ?_
  rintro e w1 ⟨rfl, hw1⟩
  subst hw1
  go_wp2_with fail
  refine (area_at h hd a z x y ht ha hz).mono ?_
  rintro e w2 ⟨rfl, hb2⟩
  have hs2 := hb2.size
  have hK2 := Keeps.of_below (S := fun _ => False) hb2
  have h2 := h.keeps hK2 (fun e => e)
  have hd2 := hd.keeps hK2 (fun e => e) (fun e => e) (fun e => e)
  have hS2 := hS.keeps hK2 (fun e => e)
  go_wp2_with fail
  refine (other_at x w2).mono ?_
  rintro e w3 ⟨rfl, hw3⟩
  subst hw3
  rw [show (if x = 1 then (2 : Int) else 1) = otherA x from rfl]
  go_wp2_with fail
  refine (begin_at hd2.c0 hn2 (otherA x)).mono ?_
  rintro e w4 ⟨rfl, hw4⟩
  subst hw4
  rw [show (n / 2 + (if otherA x = 2 then n / 4 else 0) : Nat) = areaAt n (otherA x) from rfl]
  go_wp2_with fail
  have hA2 : 2 ≤ areaAt n (otherA x) := by unfold areaAt; omega
  have hof : AllFit [otherA x, (s.length : Int)] := fun v hv => by
    simp only [List.mem_cons, List.not_mem_nil, or_false] at hv
    unfold otherA at hv
    rcases hv with rfl | rfl
    · split <;> omega
    · omega
  have hsrc4 : s ≠ [] → ∃ g o, p = some ⟨g, o, none⟩ ∧ g < w4.heap.size ∧ (g ≠ db ∧ g ≠ nb ∧ g ≠ mb) ∧ w4.rangeAt g o (bytesV s) := fun hne => by
    obtain ⟨g, o, e, hg, hgd, hr⟩ := hsrc hne
    exact ⟨g, o, e, by omega, hgd, fun j v hv => (hb2.cell (p := ⟨g, o + j, none⟩) hg).trans (hr j v hv)⟩
  refine (slay_at hd2 (areaAt n (otherA x)) p bc s (areaAt_fit hs) hbc hsrc4 (by omega) (AlikeW.nil _ _)).mono ?_
  rintro e w5 ⟨code, mb5, k5, B5, D5, left5, down5, d5, rfl, q1, q2, q3, q4, q5, q6, q7⟩
  have hs5 := q4.size
  have hl5 := h2.keeps q4 (by omega)
  have hS5 := hS2.keeps q4 (by omega)
  have hK5 : Keeps (fun i => i = db ∨ i = nb ∨ i = mb ∨ i = sb ∨ i = lb) w1 w5 := (Keeps.of_below hb2).trans2 q4 (fun i e => by omega)
  clear h hd hS h2 hd2 hS2 hsrc hsrc4 hK2
  rcases q7 with ⟨rfl, rfl, rfl, rfl⟩ | ⟨rfl, rfl⟩
  · have ht5 : told B5 = some [(a : Int), z, x, y] := (told_area q5.al hA2).trans ht
    have HRs : Hid (Calls Tryz.prog 139 #[.pointer (some ⟨lb, 0, none⟩), .int .i64 (otherA x), .int .i64 (s.length : Int)] w5 (SpP lb sb db nb mb n cap B k left down a z x y s a' z' x' y' w1)) := by
      show Calls _ _ _ _ _
      refine (reset_at hl5 q1 hS5 ⟨hne.1, hne.2.1, by omega⟩ ⟨hlne.1, hlne.2.1, by omega, hlne.2.2.2⟩ (by omega) a z x y ht5 ha hz (otherA x) (s.length : Int) hof).mono ?_
      rintro e w' ⟨code, mb', k', B', D', left', down', rfl, r1, r2, r3, r4, r5, r6, r7, r8⟩
      exact ⟨code, mb', k', B', D', left', down', rfl, r1, by omega, fun _ => by omega, by omega, hK5.trans2 r4 (fun i e => by omega), Or.inr ⟨B5, left5, down5, q5, fun e1 e2 => (q6 e1 e2).2, r5, r6, r7, r8⟩⟩
    clear q1 q2 q3 q4 q5 q6 hl5 hS5 hK5 ht5 hof
    go_wp2_with fail
    refine HRs.out.mono ?_
    intro e w9 h9
    have HP : Hid (SpP lb sb db nb mb n cap B k left down a z x y s a' z' x' y' w1 e w9) := h9
    obtain ⟨code9, _, _, _, _, _, _, rfl, _⟩ := h9
    clear HRs
    go_wp2_with fail
    go_ret
    exact HP.out
  · have HP : Hid (SpP lb sb db nb mb n cap B k left down a z x y s a' z' x' y' w1 (.returned (.int .i64 9)) w5) := ⟨9, mb5, k5, B5, D5, left5, true, rfl, q1, by omega, fun e => (by cases e), by omega, hK5, Or.inl ⟨rfl, rfl, fun e1 e2 => (by have := (q6 e1 e2).1; cases this), ⟨d5, q5⟩, hS5, hl5⟩⟩
    clear q1 q2 q3 q4 q5 q6 hl5 hS5 hK5 hof
    go_wp2_with fail
    go_ret
    exact HP.out
end Go.Proofs.YteaacodloabdcaaGreatDoor

namespace Go.Proofs.YteaacodloabdcaaGreatDoor
open Go.RowKit Go.Maps

set_option maxRecDepth 100000 in
set_option maxHeartbeats 1000000 in
theorem sget_none {w : World} {lb db nb mb n cap sb : Nat} {B : List UInt8} {k : Nat} {D : DataW Unit} {left : Int} {down : Bool} {a' z' x' y' : Int} (h : LgAt w lb db n sb false a' z' x' y') (hd : DevAt w db nb mb n cap B k D left down) (a z : Nat) (y : Int) (ht : told B = some [(a : Int), z, 0, y]) (ha : a < ringN n) (hz : z ≤ ringN n) : Calls Tryz.prog 88 #[.pointer (some ⟨db, 0, none⟩), .pointer (some ⟨lb, 0, none⟩)] w fun e w' => e = .returned (.tuple #[.slice none 0 0, .int .i64 0]) ∧ Below w.heap.size w w' := by
  go_enter Tryz.func88, Tryz.ntmps88
  go_wp2_with fail
  refine (area_at h hd a z 0 y ht ha hz).mono ?_
  rintro e w2 ⟨rfl, hb2⟩
  clear h hd
  go_wp2_with fail
  refine (isarea_at 0 w2).mono ?_
  rintro e w3 ⟨rfl, hw3⟩
  subst hw3
  go_wp2_with fail
  go_ret2
  exact ⟨rfl, hb2⟩
set_option maxRecDepth 100000 in
set_option maxHeartbeats 1000000 in
theorem sget_at {w : World} {lb db nb mb n cap sb : Nat} {B : List UInt8} {k : Nat} {D : DataW Unit} {left : Int} {down : Bool} {a' z' x' y' : Int} (h : LgAt w lb db n sb false a' z' x' y') (hd : DevAt w db nb mb n cap B k D left down) (a z : Nat) (x : Int) (l : Nat) (hx : x = 1 ∨ x = 2) (ht : told B = some [(a : Int), z, x, (l : Int)]) (ha : a < ringN n) (hz : z ≤ ringN n) (hl : l ≤ n / 4 * 64) : Calls Tryz.prog 88 #[.pointer (some ⟨db, 0, none⟩), .pointer (some ⟨lb, 0, none⟩)] w fun e w' => ∃ v, e = .returned (.tuple #[v, .int .i64 0]) ∧ SlB w' v (cutB B (areaAt n x) l) ∧ Below w.heap.size w w' := by
  have hn2 := hd.n2
  have hdec : decide (x = 0 ∨ x = 1 ∨ x = 2) = true := by rcases hx with rfl | rfl <;> rfl
  have hx0 : (x != 0) = true := by rcases hx with rfl | rfl <;> rfl
  have hx1 : (x == 0) = false := by rcases hx with rfl | rfl <;> rfl
  clear hx
  go_enter Tryz.func88, Tryz.ntmps88
  go_wp2_with fail
  refine (area_at h hd a z x l ht ha hz).mono ?_
  rintro e w2 ⟨rfl, hb2⟩
  have hs2 := hb2.size
  have hd2 := hd.keeps (Keeps.of_below (S := fun _ => False) hb2) (fun e => e) (fun e => e) (fun e => e)
  clear h hd
  go_wp2_with fail
  refine (isarea_at x w2).mono ?_
  rintro e w3 ⟨rfl, hw3⟩
  subst hw3
  rw [hdec]
  clear hdec
  go_wp2_with fail
  refine (most_at hd2.c0 hn2).mono ?_
  rintro e w4 ⟨rfl, hw4⟩
  subst hw4
  go_wp2_with fail
  refine (begin_at hd2.c0 hn2 x).mono ?_
  rintro e w5 ⟨rfl, hw5⟩
  subst hw5
  rw [show (n / 2 + (if x = 2 then n / 4 else 0) : Nat) = areaAt n x from rfl]
  go_wp2_with fail
  refine (sload_at hd2 (areaAt n x) l (areaAt_fit hl)).mono ?_
  rintro e w6 ⟨v, rfl, hv, hb6⟩
  have HP : Hid (SlB w6 v (cutB B (areaAt n x) l) ∧ Below w.heap.size w w6) := ⟨hv, hb2.trans (hb6.mono hs2)⟩
  clear hv hb6 hd2
  go_wp2_with fail
  go_ret2
  exact ⟨v, rfl, HP.out.1, HP.out.2⟩
end Go.Proofs.YteaacodloabdcaaGreatDoor
