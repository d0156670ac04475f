import Derived.Test.YteaacodloabdcaaGreatDoorDevA
import Derived.LaidEql
import Derived.Stop.Asserts
import Derived.RowKitTokens
import Derived.Deep.LoopGhost
namespace Go.Proofs.YteaacodloabdcaaGreatDoor
open Go.RowKit Go.Extern.Stop Go.Stop Go.Extern

/-- An Errno as an error. -/
abbrev errno (n : Int) : Value := .iface 45 (.int .i64 n)
abbrev placeV (b : Nat) : Value := .iface 244 (.pointer (some ⟨b, 0, none⟩))

/-! Closed facts on type assertions. -/
theorem ta31_31 (v : Value) (x : TypeId) (w : World) : (Instr.typeAssert (.iface 45 v) x 45 true).run Tryz.prog w = .ok (.tuple #[v, .bool true]) w := by kernel_rfl
theorem ta99_31 (v : Value) (x : TypeId) (w : World) : (Instr.typeAssert (.iface 244 v) x 45 true).run Tryz.prog w = .ok (.tuple #[.int .i64 0, .bool false]) w := by kernel_rfl
theorem ta99_99 (v : Value) (x : TypeId) (w : World) : (Instr.typeAssert (.iface 244 v) x 244 true).run Tryz.prog w = .ok (.tuple #[v, .bool true]) w := by kernel_rfl
theorem ta31_99 (v : Value) (x : TypeId) (w : World) : (Instr.typeAssert (.iface 45 v) x 244 true).run Tryz.prog w = .ok (.tuple #[.pointer none, .bool false]) w := by kernel_rfl
theorem tanil_99 (x : TypeId) (w : World) : (Instr.typeAssert .nilIface x 244 true).run Tryz.prog w = .ok (.tuple #[.pointer none, .bool false]) w := by kernel_rfl
theorem noAs31 (v : Value) (x : TypeId) (w : World) : (Instr.typeAssert (.iface 45 v) x 271 true).run Tryz.prog w = .ok (.tuple #[.nilIface, .bool false]) w := run_typeAssert_lacksB Tryz.underlying271 (by kernel_rfl) (by kernel_rfl) v x w
theorem noAs99 (v : Value) (x : TypeId) (w : World) : (Instr.typeAssert (.iface 244 v) x 271 true).run Tryz.prog w = .ok (.tuple #[.nilIface, .bool false]) w := run_typeAssert_lacksB Tryz.underlying271 (by kernel_rfl) (by kernel_rfl) v x w
theorem noIs31 (v : Value) (x : TypeId) (w : World) : (Instr.typeAssert (.iface 45 v) x 279 true).run Tryz.prog w = .ok (.tuple #[.nilIface, .bool false]) w := run_typeAssert_lacksB Tryz.underlying279 (by kernel_rfl) (by kernel_rfl) v x w
theorem noIs99 (v : Value) (x : TypeId) (w : World) : (Instr.typeAssert (.iface 244 v) x 279 true).run Tryz.prog w = .ok (.tuple #[.nilIface, .bool false]) w := run_typeAssert_lacksB Tryz.underlying279 (by kernel_rfl) (by kernel_rfl) v x w
theorem noUn31 (v : Value) (x : TypeId) (w : World) : (Instr.typeAssert (.iface 45 v) x 274 true).run Tryz.prog w = .ok (.tuple #[.nilIface, .bool false]) w := run_typeAssert_lacksB Tryz.underlying274 (by kernel_rfl) (by kernel_rfl) v x w
theorem hasUn99 (v : Value) (x : TypeId) (w : World) : (Instr.typeAssert (.iface 244 v) x 274 true).run Tryz.prog w = .ok (.tuple #[.iface 244 v, .bool true]) w := run_typeAssert_hasB Tryz.underlying274 (by kernel_rfl) v x w
theorem noUns31 (v : Value) (x : TypeId) (w : World) : (Instr.typeAssert (.iface 45 v) x 276 true).run Tryz.prog w = .ok (.tuple #[.nilIface, .bool false]) w := run_typeAssert_lacksB Tryz.underlying276 (by kernel_rfl) (by kernel_rfl) v x w

theorem at_nil (s : ByteArray) (w : World) : Calls Tryz.prog 167 #[.string s, .nilIface] w fun e w' => e = .returned .nilIface ∧ w' = w := by
  go_enter Tryz.func167, Tryz.ntmps167
  go_wp2
  go_ret
  exact ⟨rfl, rfl⟩
theorem at_ok (s : ByteArray) (w : World) : Calls Tryz.prog 167 #[.string s, errno 0] w fun e w' => e = .returned .nilIface ∧ w' = w := by
  have hta := ta31_31
  go_enter Tryz.func167, Tryz.ntmps167
  go_wp2
  go_ret
  exact ⟨rfl, rfl⟩
theorem at_errno (s : ByteArray) (n : Int) (w : World) (hn : (n == 0) = false) : Calls Tryz.prog 167 #[.string s, errno n] w fun e w' => e = .returned (placeV w.heap.size) ∧ w' = w.alloc (.cells #[.string s, errno n] 246) := by
  have hta := ta31_31
  go_enter Tryz.func167, Tryz.ntmps167
  go_wp2
  go_ret
  exact ⟨rfl, rfl⟩
theorem at_place (s : ByteArray) (b : Nat) (w : World) : Calls Tryz.prog 167 #[.string s, placeV b] w fun e w' => e = .returned (placeV w.heap.size) ∧ w' = w.alloc (.cells #[.string s, placeV b] 246) := by
  have hta := ta99_31
  go_enter Tryz.func167, Tryz.ntmps167
  go_wp2
  go_ret
  exact ⟨rfl, rfl⟩
theorem unwrap_any (b : Nat) (u : Value) (w : World) (h : w.cell? ⟨b, 1, none⟩ = some u) : Calls Tryz.prog 217 #[.pointer (some ⟨b, 0, none⟩)] w fun e w' => e = .returned u ∧ w' = w := by
  go_enter Tryz.func217, Tryz.ntmps217
  go_wp2
  go_ret
  exact ⟨rfl, rfl⟩
end Go.Proofs.YteaacodloabdcaaGreatDoor

namespace Go.Proofs.YteaacodloabdcaaGreatDoor
open Go.RowKit Go.Extern.Stop Go.Stop Go.Extern

/-! Closed facts on the model's entries for internal/reflectlite, at this program's types: 31: api.Errno, 103: a pointer to it, 99: a pointer to fail.place, 71: error, 129: reflectlite's rtype. -/
theorem typeOf31 (v : Value) (w : World) : (ReflectliteType.typeOf #[.iface 45 v]).run Tryz.prog w = .ok (.iface 267 (.agg #[.pointer (some ⟨1, 45, none⟩)])) w := by kernel_rfl
theorem typeOf99 (v : Value) (w : World) : (ReflectliteType.typeOf #[.iface 244 v]).run Tryz.prog w = .ok (.iface 267 (.agg #[.pointer (some ⟨1, 244, none⟩)])) w := by kernel_rfl
theorem mKind (h : Value) (w : World) : (Go.method 410 267 (.agg #[h]) "Kind").run Tryz.prog w = .ok (212, h) w := by kernel_rfl
theorem mElem (h : Value) (w : World) : (Go.method 410 267 (.agg #[h]) "Elem").run Tryz.prog w = .ok (224, .agg #[h]) w := by kernel_rfl
theorem mImpl (h : Value) (w : World) : (Go.method 410 267 (.agg #[h]) "Implements").run Tryz.prog w = .ok (225, .agg #[h]) w := by kernel_rfl
theorem mAssi (h : Value) (w : World) : (Go.method 410 267 (.agg #[h]) "AssignableTo").run Tryz.prog w = .ok (222, .agg #[h]) w := by kernel_rfl
theorem mComp (h : Value) (w : World) : (Go.method 410 267 (.agg #[h]) "Comparable").run Tryz.prog w = .ok (223, .agg #[h]) w := by kernel_rfl
theorem mUnwrap (a : Addr) (w : World) : (Go.method 410 244 (.pointer (some a)) "Unwrap").run Tryz.prog w = .ok (217, .pointer (some a)) w := by kernel_rfl
theorem kind103 (w : World) : ((ReflectliteType.abiMethod fun t => (fun a : Nat => Value.int IntKind.u8 (a : Int)) <$> Rtype.kind t) #[.pointer (some ⟨1, 248, none⟩)]).run Tryz.prog w = .ok (.int .u8 22) w := by kernel_rfl
theorem kind31 (w : World) : ((ReflectliteType.abiMethod fun t => (fun a : Nat => Value.int IntKind.u8 (a : Int)) <$> Rtype.kind t) #[.pointer (some ⟨1, 45, none⟩)]).run Tryz.prog w = .ok (.int .u8 2) w := by kernel_rfl
theorem elem103 (w : World) : (ReflectliteType.method ReflectliteType.elem #[.agg #[.pointer (some ⟨1, 248, none⟩)]]).run Tryz.prog w = .ok (.iface 267 (.agg #[.pointer (some ⟨1, 45, none⟩)])) w := by kernel_rfl
theorem impl31 (w : World) : (ReflectliteType.relation "Implements" ReflectliteType.implements_ #[.agg #[.pointer (some ⟨1, 45, none⟩)], .iface 267 (.agg #[.pointer (some ⟨1, 229, none⟩)])]).run Tryz.prog w = .ok (.bool true) w := by kernel_rfl
theorem assi31 (w : World) : (ReflectliteType.relation "AssignableTo" ReflectliteType.assignableTo #[.agg #[.pointer (some ⟨1, 45, none⟩)], .iface 267 (.agg #[.pointer (some ⟨1, 45, none⟩)])]).run Tryz.prog w = .ok (.bool true) w := by kernel_rfl
theorem assi99 (w : World) : (ReflectliteType.relation "AssignableTo" ReflectliteType.assignableTo #[.agg #[.pointer (some ⟨1, 244, none⟩)], .iface 267 (.agg #[.pointer (some ⟨1, 45, none⟩)])]).run Tryz.prog w = .ok (.bool false) w := by kernel_rfl
theorem comp31 (w : World) : (callFunc 223 #[.agg #[.pointer (some ⟨1, 45, none⟩)]]).run Tryz.prog w = .ok (.value (.bool true)) w := by kernel_rfl
theorem valueOf103 (t : Addr) (w : World) : (ReflectliteValue.unpack (.iface 248 (.pointer (some t)))).run Tryz.prog w
    = .ok (.agg #[.pointer (some ⟨1, 248, none⟩), .pointer (some ⟨w.heap.size, 0, none⟩), .int .u64 150]) (w.alloc (.cells #[.pointer (some t)] 248)) := by kernel_rfl
theorem valueOf31 (n : Int) (w : World) : (ReflectliteValue.unpack (.iface 45 (.int .i64 n))).run Tryz.prog w
    = .ok (.agg #[.pointer (some ⟨1, 45, none⟩), .pointer (some ⟨w.heap.size, 0, none⟩), .int .u64 130]) (w.alloc (.cells #[.int .i64 n] 45)) := by kernel_rfl
theorem type103 (a : Addr) (w : World) : (ReflectliteValue.methodAny (ReflectliteValue.valueError "reflectlite.Value.Type" 0) (fun t _ _ _ => ReflectliteType.toType t) #[.agg #[.pointer (some ⟨1, 248, none⟩), .pointer (some a), .int .u64 150]]).run Tryz.prog w
    = .ok (.iface 267 (.agg #[.pointer (some ⟨1, 248, none⟩)])) w := by kernel_rfl
theorem rlm (z : Sem Value) (f : TypeId → Addr → Nat → Nat → Sem Value) (v : Value) :
    ReflectliteValue.method z f #[v] = (do match ← ReflectliteValue.parts v with | none => z | some (t, a, fl) => f t a fl (fl % 32)) := rfl
theorem parts103 (a : Addr) (w : World) : (ReflectliteValue.parts (.agg #[.pointer (some ⟨1, 248, none⟩), .pointer (some a), .int .u64 150])).run Tryz.prog w = .ok (some (248, a, 150)) w := by kernel_rfl
theorem isNil103 (a p : Addr) (W : World) (ha : W.cell? a = some (.pointer (some p))) :
    (ReflectliteValue.method (ReflectliteValue.valueError "reflectlite.Value.IsNil" 0) ReflectliteValue.isNil #[.agg #[.pointer (some ⟨1, 248, none⟩), .pointer (some a), .int .u64 150]]).run Tryz.prog W = .ok (.bool false) W := by
  rw [rlm]
  simp only [Sem.run_bind, parts103, Result.andThen]
  simp [ReflectliteValue.isNil, loadVar, isAgg, underlying, Tryz.underlying248, ha, Result.andThen]
theorem elemOf103 (w : World) : (Rtype.elem? 248).run Tryz.prog w = .ok (some 45) w := by kernel_rfl
theorem mk31 (p : Addr) (w : World) : (ReflectliteValue.mk 45 p ReflectliteValue.flagAddr).run Tryz.prog w = .ok (.agg #[.pointer (some ⟨1, 45, none⟩), .pointer (some p), .int .u64 386]) w := by kernel_rfl
theorem elemV103 (a p : Addr) (W : World) (ha : W.cell? a = some (.pointer (some p))) :
    (ReflectliteValue.method (ReflectliteValue.valueError "reflectlite.Value.Elem" 0) ReflectliteValue.elem #[.agg #[.pointer (some ⟨1, 248, none⟩), .pointer (some a), .int .u64 150]]).run Tryz.prog W
      = .ok (.agg #[.pointer (some ⟨1, 45, none⟩), .pointer (some p), .int .u64 386]) W := by
  rw [rlm]
  simp only [Sem.run_bind, parts103, Result.andThen]
  simp [ReflectliteValue.elem, loadVar, isAgg, underlying, Tryz.underlying248, ha, Result.andThen, elemOf103, mk31]
theorem parts31a (a : Addr) (w : World) : (ReflectliteValue.parts (.agg #[.pointer (some ⟨1, 45, none⟩), .pointer (some a), .int .u64 386])).run Tryz.prog w = .ok (some (45, a, 386)) w := by kernel_rfl
theorem parts31 (a : Addr) (w : World) : (ReflectliteValue.parts (.agg #[.pointer (some ⟨1, 45, none⟩), .pointer (some a), .int .u64 130])).run Tryz.prog w = .ok (some (45, a, 130)) w := by kernel_rfl
theorem direct31 (w : World) : (Rtype.directlyAssignable 45 45).run Tryz.prog w = .ok true w := by kernel_rfl
theorem set31 (ta b : Addr) (n : Int) (old : Value) (W : World) (hb : W.cell? b = some (.int .i64 n)) (ht : W.cell? ta = some old) (hf : W.frozen? ta = false) :
    (ReflectliteValue.set #[.agg #[.pointer (some ⟨1, 45, none⟩), .pointer (some ta), .int .u64 386], .agg #[.pointer (some ⟨1, 45, none⟩), .pointer (some b), .int .u64 130]]).run Tryz.prog W
      = .ok (.tuple #[]) (W.setCell ta (.int .i64 n)) := by
  change (ReflectliteValue.parts (.agg #[.pointer (some ⟨1, 45, none⟩), .pointer (some ta), .int .u64 386]) >>= fun _ => ReflectliteValue.parts (.agg #[.pointer (some ⟨1, 45, none⟩), .pointer (some b), .int .u64 130]) >>= _).run Tryz.prog W = _
  simp only [Sem.run_bind, parts31a, parts31, Result.andThen]
  simp [ReflectliteValue.flagAddr, loadVar, isAgg, underlying, Tryz.underlying45, hb, Result.andThen, direct31, storeVar, Value.cells, storeCells, Addr.add]
  rw [run_store Tryz.prog W ta _ _ (by rfl)]
  simp [ht, hf]
end Go.Proofs.YteaacodloabdcaaGreatDoor

namespace Go.Proofs.YteaacodloabdcaaGreatDoor
open Go.RowKit Go.Extern.Stop Go.Stop Go.Extern

/-- Places one in another, a number at the bottom. -/
def Chain (w : World) (n : Int) : List ByteArray → Value → Prop
  | [], v => v = errno n
  | s :: r, v => ∃ b u, v = placeV b ∧ w.cell? ⟨b, 0, none⟩ = some (.string s) ∧ w.cell? ⟨b, 1, none⟩ = some u ∧ Chain w n r u
theorem Chain.keeps {S : Nat → Prop} {w w' : World} {n : Int} (hk : Keeps S w w') (hS : ∀ b, b < w.heap.size → ¬ S b) : ∀ {ws : List ByteArray} {v : Value}, Chain w n ws v → Chain w' n ws v
  | [], _, h => h
  | s :: r, v, ⟨b, u, e, h0, h1, h2⟩ => by
    have hb := World.block_lt_of_cell? w _ h0
    exact ⟨b, u, e, (hk.cell (p := ⟨b, 0, none⟩) hb (hS b hb)).trans h0, (hk.cell (p := ⟨b, 1, none⟩) hb (hS b hb)).trans h1, Chain.keeps hk hS h2⟩

theorem Chain.shape {w : World} {n : Int} : ∀ {ws : List ByteArray} {v : Value}, Chain w n ws v → ∃ T x, v = .iface T x
  | [], _, h => ⟨_, .int .i64 n, h⟩
  | _ :: _, _, ⟨b, _, e, _⟩ => ⟨_, .pointer (some ⟨b, 0, none⟩), e⟩

set_option maxRecDepth 100000 in
set_option maxHeartbeats 1000000 in
theorem as_chain (n old : Int) (t va : Addr) (ws : List ByteArray) (v : Value) (w : World) (hc : Chain w n ws v) (ht0 : w.cell? t = some (.int .i64 old)) (hf0 : w.frozen? t = false) (hv0 : w.cell? va = some (.pointer (some t))) :
    Calls Tryz.prog 193 #[v, .iface 248 (.pointer (some t)), .agg #[.pointer (some ⟨1, 248, none⟩), .pointer (some va), .int .u64 150], .iface 267 (.agg #[.pointer (some ⟨1, 45, none⟩)])] w fun ev w' => ev = .returned (.bool true) ∧
      w' = ((w.alloc (.cells #[.pointer (some ⟨1, 248, none⟩), .pointer (some va), .int .u64 150] 255)).alloc (.cells #[.int .i64 n] 45)).setCell t (.int .i64 n) := by
  have h68 := @run_callFunc_extern Tryz.prog 194 _ ReflectliteType.typeOf Tryz.func194 (by kernel_rfl) (by kernel_rfl) (by kernel_rfl) (by kernel_rfl)
  have h117 := @run_callFunc_extern Tryz.prog 222 _ (ReflectliteType.relation "AssignableTo" ReflectliteType.assignableTo) Tryz.func222 (by kernel_rfl) (by kernel_rfl) (by kernel_rfl) (by kernel_rfl)
  have h74 := @run_callFunc_extern Tryz.prog 196 _ (ReflectliteValue.method (ReflectliteValue.valueError "reflectlite.Value.Elem" 0) ReflectliteValue.elem) Tryz.func196 (by kernel_rfl) (by kernel_rfl) (by kernel_rfl) (by kernel_rfl)
  have h64 := @run_callFunc_extern Tryz.prog 190 _ (fun args => ReflectliteValue.unpack (args.getD 0 (.tuple #[]))) Tryz.func190 (by kernel_rfl) (by kernel_rfl) (by kernel_rfl) (by kernel_rfl)
  have h75 := @run_callFunc_extern Tryz.prog 197 _ ReflectliteValue.set Tryz.func197 (by kernel_rfl) (by kernel_rfl) (by kernel_rfl) (by kernel_rfl)
  have f1 := typeOf31
  have f2 := typeOf99
  have f3 := mAssi
  have f4 := assi31
  have f5 := assi99
  have f6 := valueOf31
  have f7 := mUnwrap
  have f8 := noAs99
  have f9 := hasUn99
  have htl : t.block < w.heap.size := World.block_lt_of_cell? w _ ht0
  have hvl : va.block < w.heap.size := World.block_lt_of_cell? w _ hv0
  have el := elemV103 va t (w.alloc (.cells #[.pointer (some ⟨1, 248, none⟩), .pointer (some va), .int .u64 150] 255)) (by rw [World.cell?_alloc_lt _ _ va hvl]; exact hv0)
  have st := set31 t ⟨w.heap.size + 1, 0, none⟩ n (.int .i64 old) ((w.alloc (.cells #[.pointer (some ⟨1, 248, none⟩), .pointer (some va), .int .u64 150] 255)).alloc (.cells #[.int .i64 n] 45))
    (by rw [World.cell?_alloc_at _ _ _ _ (by simp)]; rfl)
    (by rw [World.cell?_alloc_lt _ _ t (by simp; omega), World.cell?_alloc_lt _ _ t htl]; exact ht0)
    (by rw [World.frozen?_alloc_old _ _ t (by simp; omega), World.frozen?_alloc_old _ _ t (Nat.ne_of_lt htl)]; exact hf0)
  have hch : Chain (w.alloc (.cells #[.pointer (some ⟨1, 248, none⟩), .pointer (some va), .int .u64 150] 255)) n ws v := Chain.keeps ((Keeps.refl (fun _ => False) w).alloc _) (fun _ _ e => e) hc
  go_enter Tryz.func193, Tryz.ntmps193
  go_wp2
  go_loopg [0] ws.length (fun k p wr => (w.alloc (.cells #[.pointer (some ⟨1, 248, none⟩), .pointer (some va), .int .u64 150] 255)) = wr ∧ ∃ r : List ByteArray, r.length = k ∧ Chain wr n r p)
  case atStart => exact ⟨rfl, ws, rfl, hch⟩
  case round =>
    obtain ⟨rfl, r, hrl, hcr⟩ := hrel
    cases r with
    | nil =>
      have hcr' : _ = errno n := hcr
      subst hcr'
      go_wp2
      go_ret
      exact ⟨rfl, rfl⟩
    | cons s r' =>
      obtain ⟨b, u, rfl, d0, d1, d2⟩ := hcr
      obtain ⟨T, x, rfl⟩ := d2.shape
      have A : Aside (r'.length + 1 = gk ∧ Chain (w.alloc (.cells #[.pointer (some ⟨1, 248, none⟩), .pointer (some va), .int .u64 150] 255)) n r' (.iface T x)) := ⟨hrl, d2⟩
      clear hrl d2
      go_wp2
      go_roundg r'.length
      case measure => obtain ⟨a1, a2⟩ := A.out; omega
      case rel => exact ⟨rfl, r', rfl, A.out.2⟩
end Go.Proofs.YteaacodloabdcaaGreatDoor

namespace Go.Proofs.YteaacodloabdcaaGreatDoor
open Go.RowKit Go.Extern.Stop Go.Stop Go.Extern

/-- What errors.errorType holds. -/
abbrev errType : Value := .iface 267 (.agg #[.pointer (some ⟨1, 229, none⟩)])

set_option maxRecDepth 100000 in
set_option maxHeartbeats 1000000 in
theorem As_chain (n old : Int) (t : Addr) (ws : List ByteArray) (T : TypeId) (x : Value) (w : World) (hc : Chain w n ws (.iface T x)) (ht0 : w.cell? t = some (.int .i64 old)) (hf0 : w.frozen? t = false) (hg : w.cell? ⟨0, 0, none⟩ = some errType) :
    Calls Tryz.prog 186 #[.iface T x, .iface 248 (.pointer (some t))] w fun ev w' => ev = .returned (.bool true) ∧ Keeps (fun i => i = t.block) w w' ∧ w'.cell? t = some (.int .i64 n) ∧ w'.frozen? t = false := by
  have h64 := @run_callFunc_extern Tryz.prog 190 _ (fun args => ReflectliteValue.unpack (args.getD 0 (.tuple #[]))) Tryz.func190 (by kernel_rfl) (by kernel_rfl) (by kernel_rfl) (by kernel_rfl)
  have h65 := @run_callFunc_extern Tryz.prog 191 _ (ReflectliteValue.methodAny (ReflectliteValue.valueError "reflectlite.Value.Type" 0) (fun t _ _ _ => ReflectliteType.toType t)) Tryz.func191 (by kernel_rfl) (by kernel_rfl) (by kernel_rfl) (by kernel_rfl)
  have h66 := @run_callFunc_extern Tryz.prog 192 _ (ReflectliteValue.method (ReflectliteValue.valueError "reflectlite.Value.IsNil" 0) ReflectliteValue.isNil) Tryz.func192 (by kernel_rfl) (by kernel_rfl) (by kernel_rfl) (by kernel_rfl)
  have h107 := @run_callFunc_extern Tryz.prog 212 _ (ReflectliteType.abiMethod fun t => do pure (.int .u8 (← Rtype.kind t))) Tryz.func212 (by kernel_rfl) (by kernel_rfl) (by kernel_rfl) (by kernel_rfl)
  have h119 := @run_callFunc_extern Tryz.prog 224 _ (ReflectliteType.method ReflectliteType.elem) Tryz.func224 (by kernel_rfl) (by kernel_rfl) (by kernel_rfl) (by kernel_rfl)
  have h120 := @run_callFunc_extern Tryz.prog 225 _ (ReflectliteType.relation "Implements" ReflectliteType.implements_) Tryz.func225 (by kernel_rfl) (by kernel_rfl) (by kernel_rfl) (by kernel_rfl)
  have f1 := valueOf103
  have f2 := type103
  have f3 := mKind
  have f4 := mElem
  have f5 := mImpl
  have f6 := kind103
  have f7 := kind31
  have f8 := elem103
  have f9 := impl31
  have hlt : 0 < w.heap.size := World.block_lt_of_cell? w _ hg
  have htl : t.block < w.heap.size := World.block_lt_of_cell? w _ ht0
  have n8 := isNil103 ⟨w.heap.size, 0, none⟩ t ((w.alloc (.cells #[.pointer (some t)] 248)).alloc (.cells #[.pointer (some ⟨1, 248, none⟩), .pointer (some ⟨w.heap.size, 0, none⟩), .int .u64 150] 255)) (by simp)
  have hg2 : ((w.alloc (.cells #[.pointer (some t)] 248)).alloc (.cells #[.pointer (some ⟨1, 248, none⟩), .pointer (some ⟨w.heap.size, 0, none⟩), .int .u64 150] 255)).cell? ⟨0, 0, none⟩ = some errType := by
    rw [World.cell?_alloc_lt _ _ ⟨0, 0, none⟩ (by simp), World.cell?_alloc_lt _ _ ⟨0, 0, none⟩ hlt]; exact hg
  have hk2 : Keeps (fun _ => False) w ((w.alloc (.cells #[.pointer (some t)] 248)).alloc (.cells #[.pointer (some ⟨1, 248, none⟩), .pointer (some ⟨w.heap.size, 0, none⟩), .int .u64 150] 255)) := ((Keeps.refl (fun _ => False) w).alloc _).alloc _
  have hch := Chain.keeps hk2 (fun _ _ e => e) hc
  have hat := as_chain n old t ⟨w.heap.size, 0, none⟩ ws (.iface T x) ((w.alloc (.cells #[.pointer (some t)] 248)).alloc (.cells #[.pointer (some ⟨1, 248, none⟩), .pointer (some ⟨w.heap.size, 0, none⟩), .int .u64 150] 255)) hch
    ((hk2.cell htl (fun e => e)).trans ht0) ((hk2.frozen htl (fun e => e)).trans hf0) (by simp)
  have H := hat
  have HK : Hid (Calls Tryz.prog 193 _ _ _) := H
  clear H hat hch hk2
  go_enter Tryz.func186, Tryz.ntmps186
  go_wp2_with (go_at_call 193; refine HK.out.mono ?_; rintro e w' ⟨rfl, rfl⟩)
  go_ret
  have hk3 : Keeps (fun i => i = t.block) w (((w.alloc (.cells #[.pointer (some t)] 248)).alloc (.cells #[.pointer (some ⟨1, 248, none⟩), .pointer (some ⟨w.heap.size, 0, none⟩), .int .u64 150] 255)).alloc (.cells #[.pointer (some ⟨1, 248, none⟩), .pointer (some ⟨w.heap.size, 0, none⟩), .int .u64 150] 255) |>.alloc (.cells #[.int .i64 n] 45)) :=
    ((((Keeps.refl (fun i => i = t.block) w).alloc _).alloc _).alloc _).alloc _
  have hk4 : Keeps (fun _ => False) w (((w.alloc (.cells #[.pointer (some t)] 248)).alloc (.cells #[.pointer (some ⟨1, 248, none⟩), .pointer (some ⟨w.heap.size, 0, none⟩), .int .u64 150] 255)).alloc (.cells #[.pointer (some ⟨1, 248, none⟩), .pointer (some ⟨w.heap.size, 0, none⟩), .int .u64 150] 255) |>.alloc (.cells #[.int .i64 n] 45)) :=
    ((((Keeps.refl (fun _ => False) w).alloc _).alloc _).alloc _).alloc _
  refine ⟨rfl, hk3.setCell (S := fun i => i = t.block) rfl _, ?_, ?_⟩
  · rw [World.cell?_setCell_same _ _ _ ((hk4.cell htl (fun e => e)).trans ht0)]
  · rw [World.frozen?_setCell]; exact (hk4.frozen htl (fun e => e)).trans hf0
end Go.Proofs.YteaacodloabdcaaGreatDoor
