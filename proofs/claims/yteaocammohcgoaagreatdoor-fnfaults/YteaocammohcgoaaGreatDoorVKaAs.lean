import Derived.Test.YteaocammohcgoaaGreatDoorVKaBase
import Derived.Stop.Asserts
set_option linter.unusedVariables false
set_option maxHeartbeats 16000000
set_option maxRecDepth 100000
namespace Go.Proofs.YteaocammohcgoaaGreatDoor
open Go.RowKit
section
open Go.RowKit Go.Extern.Stop Go.Stop Go.Extern
namespace Ra
theorem valueOfP (t : Addr) (w : World) : (ReflectliteValue.unpack (.iface 72 (.pointer (some t)))).run Tryz.prog w
  = .ok (.agg #[Value.pointer (some ⟨4, 72, none⟩), .pointer (some ⟨w.heap.size, 0, none⟩), .int .u64 150]) (w.alloc (.cells #[.pointer (some t)] 72)) := by kernel_rfl
theorem typeP (a : Addr) (w : World) : (ReflectliteValue.methodAny (ReflectliteValue.valueError "reflectlite.Value.Type" 0) (fun t _ _ _ => ReflectliteType.toType t) #[.agg #[Value.pointer (some ⟨4, 72, none⟩), .pointer (some a), .int .u64 150]]).run Tryz.prog w
  = .ok (Value.iface 126 (.agg #[Value.pointer (some ⟨4, 72, none⟩)])) w := by kernel_rfl
theorem methodKind (h : Value) (w : World) : (Go.method 285 126 (.agg #[h]) "Kind").run Tryz.prog w = .ok (154, h) w := by kernel_rfl
theorem kindP (w : World) : ((ReflectliteType.abiMethod fun t => (fun a : Nat => Value.int IntKind.u8 (a : Int)) <$> Rtype.kind t) #[Value.pointer (some ⟨4, 72, none⟩)]).run Tryz.prog w = .ok (.int .u8 22) w := by kernel_rfl
theorem kindF (w : World) : ((ReflectliteType.abiMethod fun t => (fun a : Nat => Value.int IntKind.u8 (a : Int)) <$> Rtype.kind t) #[Value.pointer (some ⟨4, 44, none⟩)]).run Tryz.prog w = .ok (.int .u8 25) w := by kernel_rfl
theorem rlm (z : Sem Value) (f : TypeId → Addr → Nat → Nat → Sem Value) (v : Value) :
  ReflectliteValue.method z f #[v] = (do match ← ReflectliteValue.parts v with | none => z | some (t, a, fl) => f t a fl (fl % 32)) := rfl
theorem partsP (a : Addr) (w : World) : (ReflectliteValue.parts (.agg #[Value.pointer (some ⟨4, 72, none⟩), .pointer (some a), .int .u64 150])).run Tryz.prog w = .ok (some (72, a, 150)) w := by kernel_rfl
theorem isNilP (a p : Addr) (W : World) (ha : W.cell? a = some (.pointer (some p))) :
  (ReflectliteValue.method (ReflectliteValue.valueError "reflectlite.Value.IsNil" 0) ReflectliteValue.isNil #[.agg #[Value.pointer (some ⟨4, 72, none⟩), .pointer (some a), .int .u64 150]]).run Tryz.prog W = .ok (.bool false) W := by
 rw [rlm]
 simp only [Sem.run_bind, partsP, Result.andThen]
 simp [ReflectliteValue.isNil, loadVar, isAgg, underlying, Tryz.underlying72, ha, Result.andThen]
theorem methodElem (h : Value) (w : World) : (Go.method 285 126 (.agg #[h]) "Elem").run Tryz.prog w = .ok (164, .agg #[h]) w := by kernel_rfl
theorem methodAssignableTo (h : Value) (w : World) : (Go.method 285 126 (.agg #[h]) "AssignableTo").run Tryz.prog w = .ok (162, .agg #[h]) w := by kernel_rfl
theorem methodImplements (h : Value) (w : World) : (Go.method 285 126 (.agg #[h]) "Implements").run Tryz.prog w = .ok (165, .agg #[h]) w := by kernel_rfl
theorem elemP (w : World) : (ReflectliteType.method ReflectliteType.elem #[.agg #[Value.pointer (some ⟨4, 72, none⟩)]]).run Tryz.prog w = .ok (Value.iface 126 (.agg #[Value.pointer (some ⟨4, 44, none⟩)])) w := by kernel_rfl
theorem implementsF (w : World) : (ReflectliteType.relation "Implements" ReflectliteType.implements_ #[.agg #[Value.pointer (some ⟨4, 44, none⟩)], Value.iface 126 (.agg #[Value.pointer (some ⟨4, 69, none⟩)])]).run Tryz.prog w = .ok (.bool true) w := by kernel_rfl
theorem typeOfF (v : Value) (w : World) : (ReflectliteType.typeOf #[.iface 44 v]).run Tryz.prog w = .ok (Value.iface 126 (.agg #[Value.pointer (some ⟨4, 44, none⟩)])) w := by kernel_rfl
theorem assignableF (w : World) : (ReflectliteType.relation "AssignableTo" ReflectliteType.assignableTo #[.agg #[Value.pointer (some ⟨4, 44, none⟩)], Value.iface 126 (.agg #[Value.pointer (some ⟨4, 44, none⟩)])]).run Tryz.prog w = .ok (.bool true) w := by kernel_rfl
theorem valueOfF (x y : Value) (w : World) : (ReflectliteValue.unpack (.iface 44 (.agg #[x, y]))).run Tryz.prog w
  = .ok (.agg #[Value.pointer (some ⟨4, 44, none⟩), .pointer (some ⟨w.heap.size, 0, none⟩), .int .u64 153]) (w.alloc (.cells #[x, y] 44)) := by kernel_rfl
theorem elemOfP (w : World) : (Rtype.elem? 72).run Tryz.prog w = .ok (some 44) w := by kernel_rfl
theorem mkF (p : Addr) (w : World) : (ReflectliteValue.mk 44 p ReflectliteValue.flagAddr).run Tryz.prog w = .ok (.agg #[Value.pointer (some ⟨4, 44, none⟩), .pointer (some p), .int .u64 409]) w := by kernel_rfl
theorem elemVP (a p : Addr) (W : World) (ha : W.cell? a = some (.pointer (some p))) :
  (ReflectliteValue.method (ReflectliteValue.valueError "reflectlite.Value.Elem" 0) ReflectliteValue.elem #[.agg #[Value.pointer (some ⟨4, 72, none⟩), .pointer (some a), .int .u64 150]]).run Tryz.prog W
   = .ok (.agg #[Value.pointer (some ⟨4, 44, none⟩), .pointer (some p), .int .u64 409]) W := by
 rw [rlm]
 simp only [Sem.run_bind, partsP, Result.andThen]
 simp [ReflectliteValue.elem, loadVar, isAgg, underlying, Tryz.underlying72, ha, Result.andThen, elemOfP, mkF]
theorem rls (v x : Value) : ReflectliteValue.set #[v, x] = (do
    let (some (dst, a, fl), some (src, b, _)) := (← ReflectliteValue.parts v, ← ReflectliteValue.parts x)
      | unsupported (.noEntry "extern/(internal/reflectlite.Value).Set.zeroValue")
    if fl / ReflectliteValue.flagAddr % 2 == 0 then unsupported (.noEntry "extern/(internal/reflectlite.Value).Set.unaddressable")
    let val ← loadVar src b
    if ← Rtype.directlyAssignable dst src then storeVar dst a val
    else if ← Rtype.implements dst src then
      if (← Rtype.kind src) == 20 then
        match val with
        | .nilIface => unsupported (.noEntry "extern/reflectlite: a nil value of one interface type handed on as a value of another")
        | _ => storeVar dst a val
      else storeVar dst a (.iface src val)
    else panicString ("reflectlite.Set: value of type " ++ (← Rtype.spelt src) ++ " is not assignable to type " ++ (← Rtype.spelt dst))
    pure (.tuple #[])) := rfl
theorem partsFa (a : Addr) (w : World) : (ReflectliteValue.parts (.agg #[Value.pointer (some ⟨4, 44, none⟩), .pointer (some a), .int .u64 409])).run Tryz.prog w = .ok (some (44, a, 409)) w := by kernel_rfl
theorem partsF (a : Addr) (w : World) : (ReflectliteValue.parts (.agg #[Value.pointer (some ⟨4, 44, none⟩), .pointer (some a), .int .u64 153])).run Tryz.prog w = .ok (some (44, a, 153)) w := by kernel_rfl
theorem directF (w : World) : (Rtype.directlyAssignable 44 44).run Tryz.prog w = .ok true w := by kernel_rfl
theorem sizeF (w : World) : (sizeOf 44).run Tryz.prog w = .ok 2 w := by kernel_rfl
theorem loadF (b : Nat) (x y : Value) (W : World) (ja : W.cell? ⟨b, 0, none⟩ = some x) (hb1 : W.cell? ⟨b, 1, none⟩ = some y) : (loadVar 44 ⟨b, 0, none⟩).run Tryz.prog W = .ok (.agg #[x, y]) W := by
  have e := run_loadCells_list (P := Tryz.prog) W ⟨b, 0, none⟩ [x, y] (fun j v h => by
    match j, h with
    | 0, h => obtain rfl := Option.some.inj h; simpa [Addr.add] using ja
    | 1, h => obtain rfl := Option.some.inj h; simpa [Addr.add] using hb1
    | j + 2, h => simp at h)
  have hs := sizeF W
  simp only [loadVar, isAgg, underlying, Sem.run_bind, Result.andThen]
  simp only [List.length_cons, List.length_nil, Nat.zero_add] at e
  simp [hs, Result.andThen, e]
theorem storeF (g : Nat) (xi yi : Int) (z0 z1 : Value) (W : World) (h0 : W.cell? ⟨g, 0, none⟩ = some z0) (h1 : W.cell? ⟨g, 1, none⟩ = some z1) (Lc : W.frozen? ⟨g, 0, none⟩ = false) (qN : W.frozen? ⟨g, 1, none⟩ = false) :
  (storeVar 44 ⟨g, 0, none⟩ (.agg #[(Value.int .i64 xi), (Value.int .i64 yi)])).run Tryz.prog W = .ok () ((W.setCell ⟨g, 0, none⟩ (Value.int .i64 xi)).setCell ⟨g, 1, none⟩ (Value.int .i64 yi)) := by
 have E3 : (W.setCell ⟨g, 0, none⟩ (Value.int .i64 xi)).cell? ⟨g, 1, none⟩ = some z1 := by rw [World.cell?_setCell_other _ _ _ _ (by intro e; cases e)]; exact h1
 have hf1' : (W.setCell ⟨g, 0, none⟩ (Value.int .i64 xi)).frozen? ⟨g, 1, none⟩ = false := by simpa [go_sem] using qN
 have hs := sizeF W
 simp only [storeVar, Sem.run_bind, hs, Result.andThen]
 simp [Value.cells, storeCells, Addr.add]
 rw [run_store Tryz.prog W ⟨g, 0, none⟩ _ _ (by rfl)]
 simp [h0, Lc, Result.andThen]
 rw [run_store Tryz.prog _ ⟨g, 1, none⟩ _ _ (by rfl)]
 simp [E3, hf1']
theorem setF (g b : Nat) (xi yi : Int) (z0 z1 : Value) (W : World) (ja : W.cell? ⟨b, 0, none⟩ = some (Value.int .i64 xi)) (hb1 : W.cell? ⟨b, 1, none⟩ = some (Value.int .i64 yi)) (h0 : W.cell? ⟨g, 0, none⟩ = some z0) (h1 : W.cell? ⟨g, 1, none⟩ = some z1) (Lc : W.frozen? ⟨g, 0, none⟩ = false) (qN : W.frozen? ⟨g, 1, none⟩ = false) :
  (ReflectliteValue.set #[.agg #[Value.pointer (some ⟨4, 44, none⟩), .pointer (some ⟨g, 0, none⟩), .int .u64 409], .agg #[Value.pointer (some ⟨4, 44, none⟩), .pointer (some ⟨b, 0, none⟩), .int .u64 153]]).run Tryz.prog W
   = .ok (.tuple #[]) ((W.setCell ⟨g, 0, none⟩ (Value.int .i64 xi)).setCell ⟨g, 1, none⟩ (Value.int .i64 yi)) := by
 rw [rls]
 simp only [Sem.run_bind, partsFa, partsF, Result.andThen]
 have hl := loadF b (Value.int .i64 xi) (Value.int .i64 yi) W ja hb1
 have hs := storeF g xi yi z0 z1 W h0 h1 Lc qN
 simp [ReflectliteValue.flagAddr, Result.andThen, directF, hl, hs]
end Ra
theorem Pa (g : Nat) (xi yi : Int) (z0 z1 : Value) (w : World) (hg : w.cell? ⟨0, 0, none⟩ = some (Value.iface 126 (.agg #[Value.pointer (some ⟨4, 69, none⟩)]))) (h0 : w.cell? ⟨g, 0, none⟩ = some z0) (h1 : w.cell? ⟨g, 1, none⟩ = some z1) (Lc : w.frozen? ⟨g, 0, none⟩ = false) (qN : w.frozen? ⟨g, 1, none⟩ = false) :
  Calls Tryz.prog 41 #[.iface 44 (.agg #[(Value.int .i64 xi), (Value.int .i64 yi)]), .iface 72 (.pointer (some ⟨g, 0, none⟩))] w fun ev w' => ev = .returned (.bool true) ∧ ∃ W, Below w.heap.size w W ∧ w' = (W.setCell ⟨g, 0, none⟩ (Value.int .i64 xi)).setCell ⟨g, 1, none⟩ (Value.int .i64 yi) := by
 have bN : 0 < w.heap.size := by
  rcases Nat.lt_or_ge 0 w.heap.size with h | h
  ·exact h
  ·simp [World.cell?, Array.getElem?_eq_none h] at hg
 have iM : g < w.heap.size := by
  rcases Nat.lt_or_ge g w.heap.size with h | h
  ·exact h
  ·simp [World.cell?, Array.getElem?_eq_none h] at h0
 have e54 := @run_callFunc_extern Tryz.prog 64 _ (fun args => ReflectliteValue.unpack (args.getD 0 (.tuple #[]))) Tryz.func64 (by kernel_rfl) (by kernel_rfl) (by kernel_rfl) (by kernel_rfl)
 have e55 := @run_callFunc_extern Tryz.prog 65 _ (ReflectliteValue.methodAny (ReflectliteValue.valueError "reflectlite.Value.Type" 0) (fun t _ _ _ => ReflectliteType.toType t)) Tryz.func65 (by kernel_rfl) (by kernel_rfl) (by kernel_rfl) (by kernel_rfl)
 have e56 := @run_callFunc_extern Tryz.prog 66 _ (ReflectliteValue.method (ReflectliteValue.valueError "reflectlite.Value.IsNil" 0) ReflectliteValue.isNil) Tryz.func66 (by kernel_rfl) (by kernel_rfl) (by kernel_rfl) (by kernel_rfl)
 have e144 := @run_callFunc_extern Tryz.prog 154 _ (ReflectliteType.abiMethod fun t => do pure (.int .u8 (← Rtype.kind t))) Tryz.func154 (by kernel_rfl) (by kernel_rfl) (by kernel_rfl) (by kernel_rfl)
 have e154 := @run_callFunc_extern Tryz.prog 164 _ (ReflectliteType.method ReflectliteType.elem) Tryz.func164 (by kernel_rfl) (by kernel_rfl) (by kernel_rfl) (by kernel_rfl)
 have e155 := @run_callFunc_extern Tryz.prog 165 _ (ReflectliteType.relation "Implements" ReflectliteType.implements_) Tryz.func165 (by kernel_rfl) (by kernel_rfl) (by kernel_rfl) (by kernel_rfl)
 have e74 := @run_callFunc_extern Tryz.prog 87 _ ReflectliteType.typeOf Tryz.func87 (by kernel_rfl) (by kernel_rfl) (by kernel_rfl) (by kernel_rfl)
 have e152 := @run_callFunc_extern Tryz.prog 162 _ (ReflectliteType.relation "AssignableTo" ReflectliteType.assignableTo) Tryz.func162 (by kernel_rfl) (by kernel_rfl) (by kernel_rfl) (by kernel_rfl)
 have e75 := @run_callFunc_extern Tryz.prog 88 _ (ReflectliteValue.method (ReflectliteValue.valueError "reflectlite.Value.Elem" 0) ReflectliteValue.elem) Tryz.func88 (by kernel_rfl) (by kernel_rfl) (by kernel_rfl) (by kernel_rfl)
 have e76 := @run_callFunc_extern Tryz.prog 89 _ ReflectliteValue.set Tryz.func89 (by kernel_rfl) (by kernel_rfl) (by kernel_rfl) (by kernel_rfl)
 have tO := Ra.typeOfF
 have mA := Ra.methodAssignableTo
 have aF := Ra.assignableF
 have vF := Ra.valueOfF
 have vP := Ra.valueOfP
 have tP := Ra.typeP
 have mK := Ra.methodKind
 have mE := Ra.methodElem
 have mI := Ra.methodImplements
 have kP := Ra.kindP
 have kF := Ra.kindF
 have eP := Ra.elemP
 have iF := Ra.implementsF
 have n8 := Ra.isNilP ⟨w.heap.size, 0, none⟩ ⟨g, 0, none⟩ ((w.alloc (.cells #[.pointer (some ⟨g, 0, none⟩)] 72)).alloc (.cells #[Value.pointer (some ⟨4, 72, none⟩), .pointer (some ⟨w.heap.size, 0, none⟩), .int .u64 150] 97)) (by simp)
 have hg2 : ((w.alloc (.cells #[.pointer (some ⟨g, 0, none⟩)] 72)).alloc (.cells #[Value.pointer (some ⟨4, 72, none⟩), .pointer (some ⟨w.heap.size, 0, none⟩), .int .u64 150] 97)).cell? ⟨0, 0, none⟩ = some (Value.iface 126 (.agg #[Value.pointer (some ⟨4, 69, none⟩)])) := by
  rw [World.cell?_alloc_lt _ _ ⟨0, 0, none⟩ (by simp), World.cell?_alloc_lt _ _ ⟨0, 0, none⟩ bN]; exact hg
 have el := Ra.elemVP ⟨w.heap.size, 0, none⟩ ⟨g, 0, none⟩ (((w.alloc (.cells #[.pointer (some ⟨g, 0, none⟩)] 72)).alloc (.cells #[Value.pointer (some ⟨4, 72, none⟩), .pointer (some ⟨w.heap.size, 0, none⟩), .int .u64 150] 97)).alloc (.cells #[Value.pointer (some ⟨4, 72, none⟩), .pointer (some ⟨w.heap.size, 0, none⟩), .int .u64 150] 97)) (by rw [World.cell?_alloc_lt _ _ ⟨w.heap.size, 0, none⟩ (by simp; omega)]; simp)
 have lu : Below w.heap.size w ((((w.alloc (.cells #[.pointer (some ⟨g, 0, none⟩)] 72)).alloc (.cells #[Value.pointer (some ⟨4, 72, none⟩), .pointer (some ⟨w.heap.size, 0, none⟩), .int .u64 150] 97)).alloc (.cells #[Value.pointer (some ⟨4, 72, none⟩), .pointer (some ⟨w.heap.size, 0, none⟩), .int .u64 150] 97)).alloc (.cells #[(Value.int .i64 xi), (Value.int .i64 yi)] 44)) := (((bA).alloc (by simp) _).alloc (by simp; omega) _).alloc (by simp; omega) _
 have st := Ra.setF g (w.heap.size + 1 + 1 + 1) xi yi z0 z1 ((((w.alloc (.cells #[.pointer (some ⟨g, 0, none⟩)] 72)).alloc (.cells #[Value.pointer (some ⟨4, 72, none⟩), .pointer (some ⟨w.heap.size, 0, none⟩), .int .u64 150] 97)).alloc (.cells #[Value.pointer (some ⟨4, 72, none⟩), .pointer (some ⟨w.heap.size, 0, none⟩), .int .u64 150] 97)).alloc (.cells #[(Value.int .i64 xi), (Value.int .i64 yi)] 44))
  (by rw [World.cell?_alloc_at _ _ _ _ (by simp)]; rfl) (by rw [World.cell?_alloc_at _ _ _ _ (by simp)]; rfl)
  ((lu.cell (p := ⟨g, 0, none⟩) iM).trans h0) ((lu.cell (p := ⟨g, 1, none⟩) iM).trans h1) ((lu.frozen (p := ⟨g, 0, none⟩) iM).trans Lc) ((lu.frozen (p := ⟨g, 1, none⟩) iM).trans qN)
 have bF := aa lu
 clear lu
 go_enter Tryz.func41, Tryz.ntmps41
 go_wp2
 refine wp_loop_rounds 1 ?_
 rw [rounds_succ]
 go_wp2
 go_ret
 exact ⟨rfl, _, bF.out, rfl⟩
end
theorem oz {w : World} {g o : Nat} {v : Value} (h : w.cell? ⟨g, o, none⟩ = some v) : g < w.heap.size := by
 rcases Nat.lt_or_ge g w.heap.size with h1 | h1
 ·exact h1
 ·simp [World.cell?, Array.getElem?_eq_none h1] at h
theorem tJ (v : Value) (w : World) : (Instr.typeAssert (.iface 44 v) 20 69 true).run Tryz.prog w = .ok (.tuple #[.iface 44 v, .bool true]) w := by kernel_rfl
theorem yp (w : World) : (Instr.typeAssert .nilIface 20 69 true).run Tryz.prog w = .ok (.tuple #[.nilIface, .bool false]) w := by kernel_rfl
theorem qs (a b v tu x y : Value) : #[a, b] ++ (((((((Array.replicate 13 undef).setIfInBounds 3 v).setIfInBounds 4 tu).setIfInBounds 2 tu).setIfInBounds 5 x).setIfInBounds 6 y).setIfInBounds 0 x).setIfInBounds 1 y = #[a, b, x, y, tu, v, tu, x, y, undef, undef, undef, undef, undef, undef] := by kernel_rfl
theorem oV (f t : Nat) (c p : Int) (z0 z1 z2 : Value) (KF : List PanicEntry) (w : World) (hg : w.cell? ⟨0, 0, none⟩ = some (Value.iface 126 (.agg #[Value.pointer (some ⟨4, 69, none⟩)]))) (h0 : w.cell? ⟨f, 0, none⟩ = some z0) (h1 : w.cell? ⟨f, 1, none⟩ = some z1) (h2 : w.cell? ⟨t, 0, none⟩ = some z2)
  (Lc : w.frozen? ⟨f, 0, none⟩ = false) (qN : w.frozen? ⟨f, 1, none⟩ = false) (tp : w.frozen? ⟨t, 0, none⟩ = false) (dE : t ≠ f) :
  CallsD Tryz.prog 40 #[.pointer (some ⟨f, 0, none⟩), .pointer (some ⟨t, 0, none⟩)] (.panicking ({ v := .iface 44 (.agg #[.int .i64 c, .int .i64 p]), recovered := false } :: KF)) w fun e u' w' =>
   e = .returned (.tuple #[]) ∧ u' = .panicking ({ v := .iface 44 (.agg #[.int .i64 c, .int .i64 p]), recovered := true } :: KF) ∧ ∃ W, Below w.heap.size w W ∧ w' = ((W.setCell ⟨f, 0, none⟩ (.int .i64 c)).setCell ⟨f, 1, none⟩ (.int .i64 p)).setCell ⟨t, 0, none⟩ (.slice none 0 0) := by
 refine callsD_of_wpS Tryz.func40 rfl fun c₀ cs hu => ?_
 apply wpS_seq
 apply wpS_region
 simp [wpOpsS, go_sem, recoverD, hu, Tryz.ntmps40, Exit.thenS, tJ]
 rw [qs]
 refine wpS_of_wp ?_
 have AS := aa (Pa f c p z0 z1 w hg h0 h1 Lc qN)
 have H2 := aa h2
 have F2 := aa tp
 clear hg h0 h1 Lc qN h2 tp
 go_wp2_with (go_at_call 41; refine AS.out.mono ?_; rintro e w1 ⟨rfl, W, hb, vZ⟩; have q2 : w1.cell? ⟨t, 0, none⟩ = some z2 := (by rw [vZ, World.cell?_setCell_other _ _ _ _ (fun e => dE (by have := congrArg Addr.block e; first | exact this | exact this.symm)), World.cell?_setCell_other _ _ _ _ (fun e => dE (by have := congrArg Addr.block e; first | exact this | exact this.symm)), hb.cell (p := ⟨t, 0, none⟩) (oz H2.out)]; exact H2.out); have qf : w1.frozen? ⟨t, 0, none⟩ = false := (by rw [vZ]; simp only [World.frozen?_setCell]; rw [hb.frozen (p := ⟨t, 0, none⟩) (oz H2.out)]; exact F2.out); have sB := aa vZ; clear vZ)
 refine ⟨rfl, _, rfl, .tuple #[], by simp [results, Tryz.results40], rfl, rfl, W, hb, by rw [sB.out]⟩
theorem yk (f t : Addr) (w : World) :
  CallsD Tryz.prog 40 #[.pointer (some f), .pointer (some t)] .returning w fun e u' w' => e = .returned (.tuple #[]) ∧ u' = .returning ∧ w' = w := by
 refine callsD_of_wpS Tryz.func40 rfl fun c₀ cs hu => ?_
 apply wpS_seq
 apply wpS_region
 simp [wpOpsS, go_sem, recoverD, hu, Tryz.ntmps40, Exit.thenS, yp]
 rw [qs]
 refine wpS_of_wp ?_
 go_wp2
 cases c₀
 simp_all [bodyPostS, results, Tryz.results40]
end Go.Proofs.YteaocammohcgoaaGreatDoor
