import Derived.Test.YteaacodloabdcaaGreatDoorSnA
import Derived.Test.YteaacodloabdcaaGreatDoorBegA
import Derived.Lib.SlBytesConst
namespace Go.Proofs.YteaacodloabdcaaGreatDoor
open Go.RowKit Go.Maps

theorem begun1_true (w : World) (hg : w.cell? ⟨0, 0, none⟩ = some errType) : Calls Tryz.prog 89 #[] w fun e w' => e = .returned (.bool true) ∧ Below w.heap.size w w' := by
  go_enter Tryz.func89, Tryz.ntmps89
  go_wp2_with fail
  refine (begun_true _ hg).mono ?_
  rintro e w' ⟨rfl, hb⟩
  go_wp2_with fail
  go_ret
  exact ⟨rfl, hb⟩
theorem good_told {B : List UInt8} {D : DataW Unit} {left : Int} {down : Bool} {A : List Int} (h : Good B D left down A) : told B = some A := by
  obtain ⟨at_, t, e⟩ := h.new
  unfold told
  rw [e]
  rfl
theorem logon_new {n : Nat} {B : List UInt8} (hn : 64 ≤ n) (hl : B.length = n * 64) (ht : told B = some [0, 0, 0, 0]) : LogOn n B 0 [] 0 0 :=
  ⟨hl, ht, by unfold ringN; omega, Nat.zero_le _, rfl, fun r hr => by cases hr⟩
theorem area_ring {n : Nat} {a c : Nat} (ha : n / 2 ≤ a) (hn : 64 ≤ n) (b j : Nat) : ¬ areaP a c (128 + (b + j) % ringN n) := by
  rintro ⟨h1, _⟩
  have hr : 0 < ringN n := by unfold ringN; omega
  have hm := Nat.mod_lt (b + j) hr
  have he : ringN n = (n / 2 - 2) * 64 := rfl
  generalize (b + j) % ringN n = q at h1 hm
  omega
theorem LogOn.beside {n : Nat} {B B1 : List UInt8} {a : Nat} {R : List (List UInt8)} {x y : Int} (h : LogOn n B a R x y) (hn : 64 ≤ n) {b c : Nat} (hb : n / 2 ≤ b) (hA : Alike (areaP b c) B B1) : LogOn n B1 a R x y :=
  h.alike hA (fun p hp => by have := hp.1; omega) (fun j _ => area_ring hb hn a j)
/-- A text that was laid whole. -/
theorem snap_text {n : Nat} {B B1 B' : List UInt8} {D : DataW Unit} {a : Nat} {s : List UInt8} (h : SnW B D a s s.length B1) (hA : Alike lowP B1 B') (hB : B'.length = n * 64) (ha : 2 ≤ a) (hfit : a + secsN s.length ≤ n) : cutB B' a s.length = s := by
  refine list_ext_getD (cutB_len hB hfit) (fun k hk => ?_)
  have e : (cutB B' a s.length).getD k 0 = B'.getD (64 * a + k) 0 := by
    unfold cutB
    simp only [List.getD, List.getElem?_take, List.getElem?_drop, if_pos hk]
  rw [e, hA.2 _ (by unfold lowP; omega), h.wr k hk]
theorem ints_new (w : World) (A : List Int) (hf : AllFit A) : IntsAt (w.alloc (.cells (A.map (Value.int .i64)).toArray 2)) (w.alloc (.cells (A.map (Value.int .i64)).toArray 2)).heap.size (some ⟨w.heap.size, 0, none⟩) A.length A := by
  refine ⟨rfl, hf, Or.inr ⟨w.heap.size, 0, rfl, by simp, ?_⟩⟩
  intro j v hv
  rw [cell_of_row _ _ (0 + j) _ 2 (0, 0) (heap_alloc_last w _)]
  simpa using hv
/-- An Append on a device that nothing cuts off. -/
theorem append_calm {n : Nat} (hn : 64 ≤ n) (hn2 : n ≤ 4096) {B : List UInt8} {a : Nat} {R : List (List UInt8)} {x y : Int} (h : LogOn n B a R x y) {s : List UInt8} (hs : 1 ≤ s.length ∧ s.length ≤ 1000) (hz : (encR R).length + (s.length + 2) ≤ ringN n) {left' : Int} {down' : Bool} {code : Int} {B' : List UInt8} {D' : DataW Unit} (hO : ApO n B 0 false a (encR R).length x y s code B' D' left' down') : code = 0 ∧ D' = .map [] ∧ left' = 0 ∧ down' = false ∧ LogOn n B' a (R ++ [s]) x y := by
  have hap := append_lasts hn hn2 h hs hz hO
  rcases hap with ⟨h1, h2, h3⟩ | ⟨_, h, _⟩
  · rcases hO with ⟨e, _⟩ | ⟨B1, left1, down1, hW, hq, hS⟩
    · rw [h1] at e; cases e
    · obtain ⟨rfl, rfl⟩ := hq rfl rfl
      have hf : AllFit [(a : Int), ((((encR R).length + (s.length + 2) : Nat)) : Int), x, y] := fit4 hn2 h.al hz h.fit2
      have hg := (save_good (hW.al.1.trans h.len) (by omega) (by simp) hf hS).2
      exact ⟨h1, h2, hg.l, hg.dn, h3⟩
  · exact (h rfl rfl).elim
/-- A Put on a device that nothing cuts off. -/
theorem put_calm {n : Nat} (hn : 64 ≤ n) (hn2 : n ≤ 4096) {B : List UInt8} {a : Nat} {R : List (List UInt8)} {x y : Int} (h : LogOn n B a R x y) {s : List UInt8} (hs : s.length ≤ n / 4 * 64) {left1 left' : Int} {down1 down' : Bool} {code : Int} {B1 B' : List UInt8} {D' : DataW Unit} (hW : SnW B (.map []) (areaAt n (otherA x)) s s.length B1) (hl : left1 = 0) (hd : down1 = false) (hS : SaveO B1 (.map []) left1 down1 [(((a + (encR R).length) % ringN n : Nat) : Int), 0, otherA x, (s.length : Int)] code B' D' left' down') : code = 0 ∧ D' = .map [] ∧ left' = 0 ∧ down' = false ∧ LogOn n B' ((a + (encR R).length) % ringN n) [] (otherA x) (s.length : Int) ∧ cutB B' (areaAt n (otherA x)) s.length = s := by
  subst hl hd
  have hA : n / 2 ≤ areaAt n (otherA x) := by unfold areaAt; omega
  have h1 := h.beside hn hA hW.al
  have hof : AllFit [otherA x, (s.length : Int)] := fun v hv => by
    simp only [List.mem_cons, List.not_mem_nil, or_false] at hv
    unfold otherA at hv
    rcases hv with rfl | rfl
    · split <;> omega
    · omega
  have hq : (a + (encR R).length) % ringN n < ringN n := Nat.mod_lt _ (by have := h.al; omega)
  have hf : AllFit [(((a + (encR R).length) % ringN n : Nat) : Int), 0, otherA x, (s.length : Int)] := fit4 (z := 0) hn2 hq (by omega) hof
  obtain ⟨rfl, hg⟩ := save_good h1.len (by omega) (by simp) hf hS
  have hlow := save_low (by omega) h1.len (by simp) hf hS
  rcases reset_lasts hn hn2 h1 hof hS with ⟨_, r2, r3⟩ | ⟨e, _⟩
  · exact ⟨rfl, r2, hg.l, hg.dn, r3, snap_text hW hlow.1 r3.len (by omega) (areaAt_fit hs)⟩
  · cases e
set_option maxRecDepth 100000 in
theorem append_calm_at {w : World} {lb db nb mb n cap sb : Nat} {B : List UInt8} {k : Nat} {a' z' x' y' : Int} (h : LgAt w lb db n sb false a' z' x' y') (hd : DevAt w db nb mb n cap B k (.map []) 0 false) (hS : SlAt w sb db false) (hne : sb ≠ db ∧ sb ≠ nb ∧ sb ≠ mb) (hlne : lb ≠ db ∧ lb ≠ nb ∧ lb ≠ mb ∧ lb ≠ sb) (hk : k ≤ 1000) {a : Nat} {R : List (List UInt8)} {x y : Int} (hlog : LogOn n B a R x y) (g o bc : Nat) (s : List UInt8) (m : Nat) (hm : s.length = m) (hs0 : 1 ≤ m) (hs1 : m ≤ 1000) (hz : (encR R).length + (m + 2) ≤ ringN n) (hsrc : w.rangeAt g o (bytesV s)) : Calls Tryz.prog 85 #[.pointer (some ⟨lb, 0, none⟩), .slice (some ⟨g, o, none⟩) m bc] w fun e w' => ∃ mb' k' B', e = .returned (.int .i64 0) ∧ DevAt w' db nb mb' n cap B' k' (.map []) 0 false ∧ k' ≤ 1 ∧ (mb' = mb ∨ w.heap.size ≤ mb') ∧ Keeps (fun i => i = db ∨ i = nb ∨ i = mb ∨ i = sb ∨ i = lb) w w' ∧ SlAt w' sb db false ∧ LgAt w' lb db n sb false a' z' x' y' ∧ LogOn n B' a (R ++ [s]) x y := by
  subst hm
  have hn1 := hd.n1
  have hn2 := hd.n2
  refine (append_at h hd hS hne hlne hk a (encR R).length x y hlog.tl hlog.al hlog.fit2 g o bc s hs0 hs1 hz hsrc).mono ?_
  rintro e w8 ⟨code8, mb8, k8, B8, D8, left8, down8, rfl, hd8, hk8, hk8', hm8, hK8, hO8, ⟨ov, hSl8, hov⟩, hL8, _⟩
  obtain ⟨rfl, rfl, rfl, rfl, hlog8⟩ := append_calm hn1 hn2 hlog ⟨hs0, hs1⟩ hz hO8
  obtain rfl := hov rfl
  exact ⟨mb8, k8, B8, rfl, hd8, hk8' rfl, hm8, hK8, hSl8, hL8 rfl, hlog8⟩
set_option maxRecDepth 100000 in
theorem sput_calm_at {w : World} {lb db nb mb n cap sb : Nat} {B : List UInt8} {k : Nat} {a' z' x' y' : Int} (h : LgAt w lb db n sb false a' z' x' y') (hd : DevAt w db nb mb n cap B k (.map []) 0 false) (hS : SlAt w sb db false) (hne : sb ≠ db ∧ sb ≠ nb ∧ sb ≠ mb) (hlne : lb ≠ db ∧ lb ≠ nb ∧ lb ≠ mb ∧ lb ≠ sb) (hk : k ≤ 1000) {a : Nat} {R : List (List UInt8)} {x y : Int} (hlog : LogOn n B a R x y) (p : Option Addr) (bc : Nat) (s : List UInt8) (m : Nat) (hm : s.length = m) (hs : m ≤ n / 4 * 64) (hbc : m ≤ bc) (hsrc : s ≠ [] → ∃ g o, p = some ⟨g, o, none⟩ ∧ g < w.heap.size ∧ (g ≠ db ∧ g ≠ nb ∧ g ≠ mb) ∧ w.rangeAt g o (bytesV s)) : Calls Tryz.prog 87 #[.pointer (some ⟨db, 0, none⟩), .pointer (some ⟨lb, 0, none⟩), .slice p m bc] w fun e w' => ∃ mb' k' B' q, e = .returned (.int .i64 0) ∧ DevAt w' db nb mb' n cap B' k' (.map []) 0 false ∧ k' ≤ 1 ∧ (mb' = mb ∨ w.heap.size ≤ mb') ∧ Keeps (fun i => i = db ∨ i = nb ∨ i = mb ∨ i = sb ∨ i = lb) w w' ∧ SlAt w' sb db false ∧ LgAt w' lb db n sb false a' z' x' y' ∧ LogOn n B' q [] (otherA x) (m : Int) ∧ cutB B' (areaAt n (otherA x)) m = s := by
  subst hm
  have hn1 := hd.n1
  have hn2 := hd.n2
  refine (sput_at h hd hS hne hlne hk a (encR R).length x y hlog.tl hlog.al hlog.sz p bc s hs hbc hsrc).mono ?_
  rintro e w8 ⟨code8, mb8, k8, B8, D8, left8, down8, rfl, hd8, hk8, hk8', hm8, hK8, hSp⟩
  rcases hSp with ⟨_, _, e, _⟩ | ⟨B1, left1, down1, hW, hq, hSv, hSl8, hL8, _⟩
  · exact (e rfl rfl).elim
  obtain ⟨rfl, rfl, rfl, rfl, hlog8, htxt⟩ := put_calm hn1 hn2 hlog hs hW (hq rfl rfl).1 (hq rfl rfl).2 hSv
  exact ⟨mb8, k8, B8, _, rfl, hd8, hk8' rfl, hm8, hK8, hSl8, hL8 rfl, hlog8, htxt⟩
theorem sget_log_at {w : World} {lb db nb mb n cap sb : Nat} {B : List UInt8} {k : Nat} {D : DataW Unit} {left : Int} {down : Bool} {a' z' x' y' : Int} (h : LgAt w lb db n sb false a' z' x' y') (hd : DevAt w db nb mb n cap B k D left down) {a : Nat} {R : List (List UInt8)} {x : Int} {l : Nat} (hlog : LogOn n B a R x (l : Int)) (hx : x = 1 ∨ x = 2) (hl : l ≤ n / 4 * 64) {s : List UInt8} (hs : cutB B (areaAt n x) l = s) : Calls Tryz.prog 88 #[.pointer (some ⟨db, 0, none⟩), .pointer (some ⟨lb, 0, none⟩)] w fun e w' => ∃ v, e = .returned (.tuple #[v, .int .i64 0]) ∧ SlB w' v s ∧ Below w.heap.size w w' := by
  subst hs
  exact sget_at h hd a (encR R).length x l hx hlog.tl hlog.al hlog.sz hl
end Go.Proofs.YteaacodloabdcaaGreatDoor

namespace Go.Proofs.YteaacodloabdcaaGreatDoor
open Go.RowKit Go.Maps

def oneB : List UInt8 := [111, 110, 101]
def allB : List UInt8 := [97, 108, 108]
theorem const_range (w : World) (s : List UInt8) (fr : Nat × Nat) : (w.alloc (.cells (bytesV s).toArray 5 fr)).rangeAt w.heap.size 0 (bytesV s) := by
  intro j v hv
  rw [cell_of_row _ _ (0 + j) _ 5 fr (heap_alloc_last w _)]
  simpa using hv
theorem enc0 : (encR ([] : List (List UInt8))).length + (3 + 2) ≤ ringN 256 := by unfold ringN; rw [encR_nil]; decide
set_option maxRecDepth 100000 in
set_option maxHeartbeats 4000000 in
theorem begun4_true (w : World) (hg : w.cell? ⟨0, 0, none⟩ = some errType) : Calls Tryz.prog 65 #[] w fun e w' => e = .returned (.bool true) ∧ Below w.heap.size w w' := by
  have hw0 : 0 < w.heap.size := World.block_lt_of_cell? w _ hg
  go_enter Tryz.func65, Tryz.ntmps65
  go_wp2_with fail
  refine (new_at 256 w (by omega) (by omega)).mono ?_
  rintro e w1 ⟨db, nb, mb, rfl, l1, l2, l3, hd1, hb1⟩
  have hs1 := hb1.size
  have hBl := hd1.len
  go_wp2_with fail
  have hf45 : AllFit [4, 5] := fun q hq => by simp at hq; omega
  have hI := ints_new w1 [4, 5] hf45
  have hbA : Below w1.heap.size w1 (w1.alloc (.cells #[.int .i64 4, .int .i64 5] 2)) := (Below.refl _ _).alloc (Nat.le_refl _) _
  have hsA : (w1.alloc (.cells #[.int .i64 4, .int .i64 5] 2)).heap.size = w1.heap.size + 1 := by simp
  have hI : IntsAt (w1.alloc (.cells #[.int .i64 4, .int .i64 5] 2)) (w1.alloc (.cells #[.int .i64 4, .int .i64 5] 2)).heap.size (some ⟨w1.heap.size, 0, none⟩) 2 [4, 5] := hI
  have hdl1 := hd1.dlt
  have hnl1 := hd1.nlt
  have hml1 := hd1.mlt
  have hdA := hd1.keeps (Keeps.of_below (S := fun _ => False) hbA) (fun e => e) (fun e => e) (fun e => e)
  clear hd1
  generalize w1.alloc (.cells #[.int .i64 4, .int .i64 5] 2) = wA at hbA hsA hI hdA ⊢
  refine (make_at hdA (by omega) (some ⟨w1.heap.size, 0, none⟩) 2 [4, 5] (by simp) hI (fun b o e _ => by cases e; omega)).mono ?_
  rintro e w3 ⟨code, pv, mb3, k3', B3, D3, left3, down3, rfl, hd3, hk3, hm3, hK3, hM, _, hpv⟩
  obtain ⟨rfl, hG3⟩ := make_good hBl (by omega) (by simp) hf45 hM
  obtain ⟨sb3, rfl, p1, hSl3, p3, p4, p5⟩ := hpv rfl
  have hs3 := hK3.size
  have hbw3 : Below w.heap.size w w3 := (hb1.trans (hbA.mono hs1)).trans (hK3.below (by omega) (fun i e => by omega))
  obtain ⟨rfl, rfl, rfl⟩ : D3 = .map [] ∧ left3 = 0 ∧ down3 = false := ⟨hG3.d, hG3.l, hG3.dn⟩
  clear hpv hM hK3 hdA hI hbA hb1 hG3
  go_wp2_with fail
  have hf6 : AllFit [6] := fun q hq => by simp at hq; omega
  have hI6 : IntsAt (w3.alloc (.cells #[.int .i64 6] 2)) (w3.alloc (.cells #[.int .i64 6] 2)).heap.size (some ⟨w3.heap.size, 0, none⟩) 1 [6] := ints_new w3 [6] hf6
  have hbB : Below w3.heap.size w3 (w3.alloc (.cells #[.int .i64 6] 2)) := (Below.refl _ _).alloc (Nat.le_refl _) _
  have hsB : (w3.alloc (.cells #[.int .i64 6] 2)).heap.size = w3.heap.size + 1 := by simp
  have hdB := hd3.keeps (Keeps.of_below (S := fun _ => False) hbB) (fun e => e) (fun e => e) (fun e => e)
  have hSB := hSl3.keeps (Keeps.of_below (S := fun _ => False) hbB) (fun e => e)
  have hB3 := hd3.len
  have hdl3 := hd3.dlt
  have hnl3 := hd3.nlt
  have hml3 := hd3.mlt
  have hsl3 := hSl3.lt
  have hbwB : Below w.heap.size w (w3.alloc (.cells #[.int .i64 6] 2)) := hbw3.alloc (by omega) _
  generalize w3.alloc (.cells #[.int .i64 6] 2) = wB at hI6 hbB hsB hdB hSB hbwB ⊢
  clear hd3 hSl3 hbw3 hbB
  refine (set_at hdB hSB (by omega) (by omega) (some ⟨w3.heap.size, 0, none⟩) 1 [6] (by simp) hI6).mono ?_
  rintro e w4 ⟨code4, mb4, k4, B4, D4, left4, down4, rfl, hd4, hk4, hm4, hK4, hO4, hSl4⟩
  obtain ⟨rfl, hG4⟩ := save_good hB3 (by omega) (by simp) hf6 hO4
  obtain ⟨rfl, rfl, rfl⟩ : D4 = .map [] ∧ left4 = 0 ∧ down4 = false := ⟨hG4.d, hG4.l, hG4.dn⟩
  have hs4 := hK4.size
  have hbw4 : Below w.heap.size w w4 := hbwB.trans (hK4.below (by omega) (fun i e => by omega))
  obtain ⟨at4, t4, hnew4⟩ := hG4.new
  clear hdB hSB hI6 hO4 hK4 hbwB hG4 hSl4
  go_wp2_with fail
  have hKn : KeepB w4 0 none 0 [] := ⟨rfl, Or.inl rfl⟩
  refine (crash_l hd4 (by omega) 0 hKn).mono ?_
  rintro e w5 ⟨L5, db5, nb5, mb5, cap5, hLp5, _, rfl, u1, u2, u3, hd5, hb5⟩
  rw [crash_nothing hLp5] at hd5
  have hs5 := hb5.size
  have hd45 := hd4.keeps (Keeps.of_below (S := fun _ => False) hb5) (fun e => e) (fun e => e) (fun e => e)
  have hdl4 := hd4.dlt
  have hnl4 := hd4.nlt
  have hml4 := hd4.mlt
  have hbw5 : Below w.heap.size w w5 := hbw4.trans (hb5.mono (by omega))
  clear hd4 hLp5 hKn hb5 hbw4
  go_wp2_with fail
  refine (open_at hd5).mono ?_
  rintro e w6 ⟨hb6, _, hS6⟩
  obtain ⟨sb6, ka6, kc6, rfl, q6, _, hJ6, hf6'⟩ := hS6 t4 [6] (by rw [hnew4])
  obtain ⟨b6, o6, rfl, hc6⟩ := hJ6.cell 0 (by decide)
  have hc6 : w6.cell? ⟨b6, o6, none⟩ = some (.int .i64 6) := hc6
  have hl6 : b6 < w6.heap.size := World.block_lt_of_cell? w6 _ hc6
  have hg6 := (hf6' b6 o6 rfl (by decide)).1
  have hs6 := hb6.size
  have hd6 := hd45.keeps (Keeps.of_below (S := fun _ => False) hb6) (fun e => e) (fun e => e) (fun e => e)
  have hbw6 : Below w.heap.size w w6 := hbw5.trans (hb6.mono (by omega))
  clear hS6 hJ6 hd45 hd5 hb6 hbw5 hnew4
  go_wp2_with fail
  refine (wmake_at hd6 (by omega)).mono ?_
  rintro e w7 ⟨code7, pv7, mb7, k7, B7, D7, left7, down7, rfl, hd7, hk7, hm7, hK7, hM7, _, hpv7⟩
  obtain ⟨rfl, hG7⟩ := make_good hd6.len (by omega) (by simp) fit0 hM7
  obtain ⟨lb, sb, rfl, v1, v2, v3, hL7, hS7, v4, v5⟩ := hpv7 rfl
  clear hpv7
  obtain ⟨rfl, rfl, rfl⟩ : D7 = .map [] ∧ left7 = 0 ∧ down7 = false := ⟨hG7.d, hG7.l, hG7.dn⟩
  have hlog7 := logon_new (n := 256) (by omega) hd7.len (good_told hG7)
  have hs7 := hK7.size
  have hbw7 : Below w.heap.size w w7 := hbw6.trans (hK7.below (by omega) (fun i e => by omega))
  have hc7 : w7.cell? ⟨b6, o6, none⟩ = some (.int .i64 6) := (hK7.cell (p := ⟨b6, o6, none⟩) hl6 (by show ¬ (b6 = db ∨ b6 = nb ∨ b6 = mb4); omega)).trans hc6
  clear hM7 hG7 hd6 hbw6 hK7 hc6
  have kc := fun (W : World) (C : Array Value) (m c : Nat) => Lib.run_convert_bytes_const (P := Tryz.prog) W 67 5 C m c Tryz.underlying67 Tryz.underlying5
  go_wp2_with fail
  have hbC : Below w7.heap.size w7 (w7.alloc (.cells #[.int .u8 111, .int .u8 110, .int .u8 101] 5 (3, 4))) := (Below.refl _ _).alloc (Nat.le_refl _) _
  have hsC : (w7.alloc (.cells #[.int .u8 111, .int .u8 110, .int .u8 101] 5 (3, 4))).heap.size = w7.heap.size + 1 := by simp
  have hrC : (w7.alloc (.cells #[.int .u8 111, .int .u8 110, .int .u8 101] 5 (3, 4))).rangeAt w7.heap.size 0 (bytesV oneB) := const_range w7 oneB (3, 4)
  have hKC := Keeps.of_below (S := fun _ => False) hbC
  have hdC := hd7.keeps hKC (fun e => e) (fun e => e) (fun e => e)
  have hLC := hL7.keeps hKC (fun e => e)
  have hSC := hS7.keeps hKC (fun e => e)
  have hcC := (hbC.cell (p := ⟨b6, o6, none⟩) (by show b6 < _; omega)).trans hc7
  have hbwC : Below w.heap.size w (w7.alloc (.cells #[.int .u8 111, .int .u8 110, .int .u8 101] 5 (3, 4))) := hbw7.alloc (by omega) _
  have hdl7 := hd7.dlt
  have hnl7 := hd7.nlt
  have hml7 := hd7.mlt
  have hll7 := hL7.lt
  have hsl7 := hS7.lt
  clear hbC hKC hd7 hL7 hS7 hc7 hbw7
  generalize w7.alloc (.cells #[.int .u8 111, .int .u8 110, .int .u8 101] 5 (3, 4)) = wC at hsC hrC hdC hLC hSC hcC hbwC ⊢
  have hone : oneB.length = 3 := rfl
  refine (append_calm_at hLC hdC hSC v4 v5 (by omega) hlog7 w7.heap.size 0 3 oneB 3 hone (by omega) (by omega) enc0 hrC).mono ?_
  rintro e w8 ⟨mb8, k8, B8, rfl, hd8, hkk8, hm8, hK8, hSx8, hLg8, hlog8⟩
  have hs8 := hK8.size
  have hbw8 : Below w.heap.size w w8 := hbwC.trans (hK8.below (by omega) (fun i e => by omega))
  have hc8 : w8.cell? ⟨b6, o6, none⟩ = some (.int .i64 6) := (hK8.cell (p := ⟨b6, o6, none⟩) (by show b6 < _; omega) (by show ¬ (b6 = db ∨ b6 = nb ∨ b6 = mb7 ∨ b6 = sb ∨ b6 = lb); omega)).trans hcC
  have HLog8 : Hid (LogOn 256 B8 0 [oneB] 0 0) := hlog8
  clear hK8 hbwC hdC hLC hSC hcC hrC hlog7 hlog8 hone
  go_wp2_with fail
  have hKn : KeepB w8 0 none 0 [] := ⟨rfl, Or.inl rfl⟩
  refine (crash_l hd8 (by omega) 0 hKn).mono ?_
  rintro e w9 ⟨L9, db9, nb9, mb9, cap9, hLp9, _, rfl, y1, y2, y3, hd9, hb9⟩
  rw [crash_nothing hLp9] at hd9
  have hs9 := hb9.size
  have hKb9 := Keeps.of_below (S := fun _ => False) hb9
  have hd89 := hd8.keeps hKb9 (fun e => e) (fun e => e) (fun e => e)
  have hL9 := hLg8.keeps hKb9 (fun e => e)
  have hSl9 := hSx8.keeps hKb9 (fun e => e)
  have hdl8 := hd8.dlt
  have hnl8 := hd8.nlt
  have hml8 := hd8.mlt
  have hc9 := (hb9.cell (p := ⟨b6, o6, none⟩) (by show b6 < _; omega)).trans hc8
  have hbw9 : Below w.heap.size w w9 := hbw8.trans (hb9.mono (by omega))
  clear hd8 hLp9 hKn hb9 hbw8 hLg8 hSx8 hc8 hKb9
  go_wp2_with fail
  refine (wopen_at hd9 HLog8.out).mono ?_
  rintro e w10 ⟨lb10, sb10, rv, U, rfl, z1, z2, z3, _, _, hR10, hU10, hb10⟩
  have hs10 := hb10.size
  have hKb10 := Keeps.of_below (S := fun _ => False) hb10
  have hd10 := hd89.keeps hKb10 (fun e => e) (fun e => e) (fun e => e)
  have hL10 := hL9.keeps hKb10 (fun e => e)
  have hSl10 := hSl9.keeps hKb10 (fun e => e)
  have hc10 := (hb10.cell (p := ⟨b6, o6, none⟩) (by show b6 < _; omega)).trans hc9
  have hbw10 : Below w.heap.size w w10 := hbw9.trans (hb10.mono (by omega))
  obtain ⟨V, hVl, hrow, hrec⟩ := hR10
  obtain ⟨gr, capr, curr, rfl, hUr, hHr, _, _, _, hTk⟩ : ∃ g cap cur, rv = .slice (some ⟨g, 0, none⟩) [oneB].length cap ∧ U g ∧ w10.heap[g]? = some (.cells cur 67) ∧ [oneB].length ≤ cap ∧ cap ≤ maxLen ∧ cur.size = cap ∧ cur.toList.take [oneB].length = V := by
    rcases hrow with ⟨_, h⟩ | h
    · cases h
    · exact h
  obtain ⟨v0, hv0⟩ : ∃ v0, V[0]? = some v0 := ⟨_, List.getElem?_eq_getElem (by rw [hVl]; decide)⟩
  obtain ⟨ge, ce, rfl, _, hUe, hBe⟩ := hrec 0 v0 oneB hv0 rfl
  have hcr : w10.cell? ⟨gr, 0, none⟩ = some (.slice (some ⟨ge, 0, none⟩) 3 ce) := by
    rw [cell_of_row _ _ 0 _ 67 (0, 0) hHr]
    rw [← hTk, List.getElem?_take, if_pos (by decide), show oneB.length = 3 from rfl] at hv0
    simpa using hv0
  have hre := hBe.range
  have hur := hU10 gr hUr
  have hue := hU10 ge hUe
  clear hrow hrec hTk hv0 hHr hBe hU10 hd89 hL9 hSl9 hc9 hd9 hb10 hbw9 hKb10 hVl hUr hUe
  go_wp2_with fail
  have hbE : Below w10.heap.size w10 (w10.alloc (.cells #[.int .u8 97, .int .u8 108, .int .u8 108] 5 (3, 4))) := (Below.refl _ _).alloc (Nat.le_refl _) _
  have hsE : (w10.alloc (.cells #[.int .u8 97, .int .u8 108, .int .u8 108] 5 (3, 4))).heap.size = w10.heap.size + 1 := by simp
  have hrE : (w10.alloc (.cells #[.int .u8 97, .int .u8 108, .int .u8 108] 5 (3, 4))).rangeAt w10.heap.size 0 (bytesV allB) := const_range w10 allB (3, 4)
  have hKE := Keeps.of_below (S := fun _ => False) hbE
  have hdE := hd10.keeps hKE (fun e => e) (fun e => e) (fun e => e)
  have hLE := hL10.keeps hKE (fun e => e)
  have hSE := hSl10.keeps hKE (fun e => e)
  have hcE := (hbE.cell (p := ⟨b6, o6, none⟩) (by show b6 < _; omega)).trans hc10
  have hcrE := (hbE.cell (p := ⟨gr, 0, none⟩) (by show gr < _; omega)).trans hcr
  have hreE : (w10.alloc (.cells #[.int .u8 97, .int .u8 108, .int .u8 108] 5 (3, 4))).rangeAt ge 0 (bytesV oneB) := fun j v hv => (hbE.cell (p := ⟨ge, 0 + j, none⟩) (by show ge < _; omega)).trans (hre j v hv)
  have hbwE : Below w.heap.size w (w10.alloc (.cells #[.int .u8 97, .int .u8 108, .int .u8 108] 5 (3, 4))) := hbw10.alloc (by omega) _
  clear hbE hKE hd10 hL10 hSl10 hc10 hbw10 hcr hre kc
  generalize w10.alloc (.cells #[.int .u8 97, .int .u8 108, .int .u8 108] 5 (3, 4)) = wE at hsE hrE hdE hLE hSE hcE hcrE hreE hbwE ⊢
  refine (sput_calm_at hLE hdE hSE ⟨v4.1, v4.2.1, by omega⟩ ⟨v5.1, v5.2.1, by omega, v5.2.2.2⟩ (by omega) HLog8.out (some ⟨w10.heap.size, 0, none⟩) 3 allB 3 rfl (by omega) (by omega) (fun _ => ⟨w10.heap.size, 0, rfl, by omega, by omega, hrE⟩)).mono ?_
  rintro e w11 ⟨mb11, k11, B11, q11, rfl, hd11, hkk11, hm11, hK11, _, hLx, hlog11, htxt⟩
  have hs11 := hK11.size
  have hbw11 : Below w.heap.size w w11 := hbwE.trans (hK11.below (by omega) (fun i e => by omega))
  have hc11 : w11.cell? ⟨b6, o6, none⟩ = some (.int .i64 6) := (hK11.cell (p := ⟨b6, o6, none⟩) (by show b6 < _; omega) (by show ¬ (b6 = db ∨ b6 = nb ∨ b6 = mb8 ∨ b6 = sb ∨ b6 = lb); omega)).trans hcE
  have hcr11 : w11.cell? ⟨gr, 0, none⟩ = some (.slice (some ⟨ge, 0, none⟩) 3 ce) := (hK11.cell (p := ⟨gr, 0, none⟩) (by show gr < _; omega) (by show ¬ (gr = db ∨ gr = nb ∨ gr = mb8 ∨ gr = sb ∨ gr = lb); omega)).trans hcrE
  have hre11 : w11.rangeAt ge 0 (bytesV oneB) := fun j v hv => (hK11.cell (p := ⟨ge, 0 + j, none⟩) (by show ge < _; omega) (by show ¬ (ge = db ∨ ge = nb ∨ ge = mb8 ∨ ge = sb ∨ ge = lb); omega)).trans (hreE j v hv)
  have HGet : Hid (Calls Tryz.prog 88 #[.pointer (some ⟨db, 0, none⟩), .pointer (some ⟨lb, 0, none⟩)] w11 fun e w' => ∃ v, e = .returned (.tuple #[v, .int .i64 0]) ∧ SlB w' v allB ∧ Below w11.heap.size w11 w') := sget_log_at hLx hd11 hlog11 (Or.inl rfl) (by omega) htxt
  clear hK11 hcE hcrE hreE hbwE hdE hLE hSE hrE hlog11 htxt hLx hd11 HLog8
  go_wp2_with fail
  refine HGet.out.mono ?_
  rintro e w12 ⟨tv, rfl, hT, hb12⟩
  obtain ⟨tp, tc, rfl, hT2⟩ := hT
  obtain ⟨tg, t0, rfl, hTr⟩ := hT2 (by decide)
  clear hT2 HGet
  have hs12 := hb12.size
  have hbw12 : Below w.heap.size w w12 := hbw11.trans (hb12.mono (by omega))
  have hc12 := (hb12.cell (p := ⟨b6, o6, none⟩) (by show b6 < _; omega)).trans hc11
  have hcr12 := (hb12.cell (p := ⟨gr, 0, none⟩) (by show gr < _; omega)).trans hcr11
  have hre12 : w12.rangeAt ge 0 (bytesV oneB) := fun j v hv => (hb12.cell (p := ⟨ge, 0 + j, none⟩) (by show ge < _; omega)).trans (hre11 j v hv)
  clear hb12 hbw11 hc11 hcr11 hre11
  have hg12 : w12.cell? ⟨0, 0, none⟩ = some errType := (hbw12.cell (p := ⟨0, 0, none⟩) hw0).trans hg
  have htl : tg < w12.heap.size := World.block_lt_of_cell? w12 _ (hTr 0 (.int .u8 97) rfl)
  go_wp2_with fail
  refine (begun1_true w12 hg12).mono ?_
  rintro e w13 ⟨rfl, hb13⟩
  have hs13 := hb13.size
  have hbw13 : Below w.heap.size w w13 := hbw12.trans (hb13.mono (by omega))
  have hc13 := (hb13.cell (p := ⟨b6, o6, none⟩) (by show b6 < _; omega)).trans hc12
  have hcr13 := (hb13.cell (p := ⟨gr, 0, none⟩) (by show gr < _; omega)).trans hcr12
  have hco : (convert 67 9 (.slice (some ⟨ge, 0, none⟩) 3 ce)).run Tryz.prog w13 = .ok (.string ⟨#[111, 110, 101]⟩) w13 :=
    conv_bytes ge 0 3 ce oneB w13 rfl (fun j v hv => (hb13.cell (p := ⟨ge, 0 + j, none⟩) (by show ge < _; omega)).trans (hre12 j v hv))
  have hct : (convert 67 9 (.slice (some ⟨tg, t0, none⟩) allB.length tc)).run Tryz.prog w13 = .ok (.string ⟨#[97, 108, 108]⟩) w13 :=
    conv_bytes tg t0 allB.length tc allB w13 rfl (fun j v hv => (hb13.cell (p := ⟨tg, t0 + j, none⟩) htl).trans (hTr j v hv))
  clear hb13 hc12 hcr12 hre12 hbw12 hg hg12 hTr
  go_wp2_with fail
  go_ret
  exact ⟨rfl, hbw13⟩
end Go.Proofs.YteaacodloabdcaaGreatDoor
