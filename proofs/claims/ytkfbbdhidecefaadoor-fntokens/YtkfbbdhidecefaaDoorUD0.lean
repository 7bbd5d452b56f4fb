import Derived.Test.YtkfbbdhidecefaaDoorUKaBase
import Derived.Deep.RegionWith
set_option linter.unusedVariables false
set_option maxHeartbeats 16000000
set_option maxRecDepth 100000
namespace Go.Proofs.YtkfbbdhidecefaaDoor
open Go.RowKit
variable {G : Prop}
theorem bD0 (h : G := by
 intro j hj
 obtain rfl : j = 0 := by simp at hj; omega
 have e : ((UInt8.ofNat (48 + n)).toNat : Int) = x := by
  rw [hx, UInt8.toNat_ofNat', Nat.mod_eq_of_lt (by omega)]; omega
 simp only [List.getElem_cons_zero, e]
 first
 |clear k_D0_0
  simpa [Addr.add] using hg
 |clear k_D0_1
  simp [Addr.add]) : G := h
def gQ : Nat → Nat → List UInt8
 |0, _ => []
 |f + 1, n => if n < 10 then [UInt8.ofNat (48 + n)] else gQ f (n / 10) ++ [UInt8.ofNat (48 + n % 10)]
def aX (f : Nat → List UInt8) : Nat → List UInt8
 |0 => []
 |n + 1 => aX f n ++ f n
def cr (l : List UInt8) : ByteArray := ⟨l.toArray⟩
theorem mx (a b : List UInt8) : cr a ++ cr b = cr (a ++ b) := by
 unfold cr
 apply ByteArray.ext
 simp
def DigC (f : Nat) : Prop := ∀ (n : Nat) (w : World), n < 10 ^ (f + 1) → n ≤ 9223372036854775807 →
 Calls Tryd.prog 33 #[.int .i64 n] w fun e w' => e = .returned (.string (cr (gQ (f + 1) n))) ∧ Below w.heap.size w w'
theorem Le (W : World) (n : Nat) (x : Int) (hx : x = 48 + (n : Int)) (hn : n < 10) (g : Nat) (hg : W.cell? ⟨g, 0, none⟩ = some (.int .u8 x)) :
  (convert 22 9 (.slice (some ⟨g, 0, none⟩) 1 1)).run Tryd.prog W = .ok (.string (cr [UInt8.ofNat (48 + n)])) W := by
 refine run_convert_bytes_back (P := Tryd.prog) W 22 9 5 ⟨g, 0, none⟩ 1 [UInt8.ofNat (48 + n)] Tryd.underlying22 Tryd.underlying5 Tryd.underlying9 ?_
 have k_D0_0 := kk
 exact bD0
theorem H9 (W : World) (n : Nat) (x : Int) (hx : x = 48 + (n : Int)) (hn : n < 10) :
  (convert 22 9 (.slice (some ⟨W.heap.size, 0, none⟩) 1 1)).run Tryd.prog (W.alloc (.cells #[.int .u8 x] 5)) = .ok (.string (cr [UInt8.ofNat (48 + n)])) (W.alloc (.cells #[.int .u8 x] 5)) := by
 refine run_convert_bytes_back (P := Tryd.prog) (W.alloc (.cells #[.int .u8 x] 5)) 22 9 5 ⟨W.heap.size, 0, none⟩ 1 [UInt8.ofNat (48 + n)] Tryd.underlying22 Tryd.underlying5 Tryd.underlying9 ?_
 have k_D0_1 := kk
 exact bD0
theorem CQ (n : Nat) (w : World) (hn : n < 10) : Calls Tryd.prog 33 #[.int .i64 n] w fun e w' => e = .returned (.string (cr [UInt8.ofNat (48 + n)])) ∧ Below w.heap.size w w' := by
 have hcv := H9 w n (48 + n) rfl hn
 have HB : Hid (∀ o, Below w.heap.size w (w.alloc o)) := fun o => bA
 generalize cr [UInt8.ofNat (48 + n)] = r at *
 go_enter Tryd.func33, Tryd.ntmps33
 go_wp2
 go_ret
 exact ⟨rfl, HB.out _⟩
theorem Eu (f n : Nat) (hn : ¬ n < 10) : gQ (f + 2) n = gQ (f + 1) (n / 10) ++ [UInt8.ofNat (48 + n % 10)] := by
 rw [gQ, if_neg hn]
theorem H8 (f n : Nat) (w : World) (hn : ¬ n < 10) (hm : n ≤ 9223372036854775807) (ih : ∀ w : World, Calls Tryd.prog 33 #[.int .i64 ((n / 10 : Nat) : Int)] w fun e w' => e = .returned (.string (cr (gQ (f + 1) (n / 10)))) ∧ Below w.heap.size w w') (hl : (gQ (f + 1) (n / 10)).length ≤ 100) :
  Calls Tryd.prog 33 #[.int .i64 n] w fun e w' => e = .returned (.string (cr (gQ (f + 2) n))) ∧ Below w.heap.size w w' := by
 rw [Eu f n hn]
 have hq : Int.tdiv (n : Int) 10 = ((n / 10 : Nat) : Int) := by rfl
 have hr : Int.tmod (n : Int) 10 = ((n % 10 : Nat) : Int) := by rfl
 have N8 : n % 10 < 10 := Nat.mod_lt _ (by decide)
 have HI := aa ih
 have HC := aa fun (W : World) (g : Nat) (hg : W.cell? ⟨g, 0, none⟩ = some (.int .u8 (48 + ((n % 10 : Nat) : Int)))) => Le W (n % 10) _ rfl N8 g hg
 have IY : (0 : Int) ≤ ((n / 10 : Nat) : Int) ∧ ((n / 10 : Nat) : Int) ≤ 9223372036854775807 := by omega
 have HS := aa (mx (gQ (f + 1) (n / 10)) [UInt8.ofNat (48 + n % 10)])
 have aY : (cr (gQ (f + 1) (n / 10))).size ≤ 100 := by simpa [cr, ByteArray.size] using hl
 have bH : (cr [UInt8.ofNat (48 + n % 10)]).size = 1 := rfl
 generalize n / 10 = q at *
 generalize n % 10 = r at *
 have yg : IntKind.i64.wrap (q : Int) = q := by simp [IntKind.wrap, IntKind.bits, IntKind.signed]; omega
 have IV : IntKind.i64.wrap (48 + (r : Int)) = 48 + r := by simp [IntKind.wrap, IntKind.bits, IntKind.signed]; omega
 have hw3 : IntKind.u8.wrap (48 + (r : Int)) = 48 + r := by simp [IntKind.wrap, IntKind.bits, IntKind.signed]; omega
 have hcv1 : ∀ W : World, (convert 22 9 (.slice (some ⟨W.heap.size, 0, none⟩) 1 1)).run Tryd.prog (W.alloc (.cells #[.int .u8 (48 + (r : Int))] 5)) = .ok (.string (cr [UInt8.ofNat (48 + r)])) (W.alloc (.cells #[.int .u8 (48 + (r : Int))] 5)) :=
  fun W => HC.out _ _ (by simp)
 have hcv2 : (convert 22 9 (.slice (some ⟨w.heap.size, 0, none⟩) 1 1)).run Tryd.prog (w.alloc (.cells #[.int .u8 (48 + (r : Int))] 5)).drew = .ok (.string (cr [UInt8.ofNat (48 + r)])) (w.alloc (.cells #[.int .u8 (48 + (r : Int))] 5)).drew :=
  HC.out _ _ (by simp)
 have HC3 : Hid (∀ W' : World, Below (w.alloc (.cells #[.int .u8 (48 + (r : Int))] 5)).drew.heap.size (w.alloc (.cells #[.int .u8 (48 + (r : Int))] 5)).drew W' → (convert 22 9 (.slice (some ⟨w.heap.size, 0, none⟩) 1 1)).run Tryd.prog W' = .ok (.string (cr [UInt8.ofNat (48 + r)])) W') :=
  fun W' hb => HC.out _ _ (by rw [hb.cell (p := ⟨w.heap.size, 0, none⟩) (by simp)]; simp)
 have HBa : Hid (∀ (W' : World) (o : Obj), Below w.drew.heap.size w.drew W' → Below w.heap.size w (W'.alloc o)) := fun W' o hb =>
  (show Below w.heap.size w W' from ⟨hb.os, hb.tape, hb.output, hb.size, hb.block⟩).alloc hb.size _
 have HBb : Hid (∀ (W' : World) (o : Obj), Below (w.alloc o).drew.heap.size (w.alloc o).drew W' → Below w.heap.size w W') := fun W' o hb =>
  (bO w o).trans ((show Below (w.alloc o).heap.size (w.alloc o) W' from ⟨hb.os, hb.tape, hb.output, hb.size, hb.block⟩).mono (by simp))
 rw [← HS.out]
 generalize cr (gQ (f + 1) q) = s1 at *
 generalize cr [UInt8.ofNat (48 + r)] = s2 at *
 clear ih
 go_enter Tryd.func33, Tryd.ntmps33
 go_wp2
 go_region_with (go_at_call 33; refine (HI.out _).mono ?_; rintro e w' ⟨rfl, hb⟩; (try have hcv3 := HC3.out _ hb))
 all_goals go_wp2
 all_goals go_ret
 all_goals first | exact ⟨rfl, HBa.out _ _ hb⟩ | exact ⟨rfl, HBb.out _ _ hb⟩
theorem vr (f : Nat) : ∀ n, (gQ f n).length ≤ f := by
 induction f with
 |zero => intro n; simp [gQ]
 |succ f ih => intro n; rw [gQ]; split; simp; simp; exact ih _
theorem Lc (f : Nat) (hf : f ≤ 90) : DigC f := by
 induction f with
 |zero =>
  intro n w h hm
  have h : n < 10 := by simpa using h
  have e : gQ 1 n = [UInt8.ofNat (48 + n)] := by simp [gQ, h]
  rw [e]; exact CQ n w h
 |succ f ih =>
  intro n w h hm
  by_cases hn : n < 10
  ·have e : gQ (f + 2) n = [UInt8.ofNat (48 + n)] := by simp [gQ, hn]
   rw [e]; exact CQ n w hn
  ·refine H8 f n w hn hm (fun w => ih (by omega) (n / 10) w (by rw [Nat.pow_succ] at h; omega) (by omega)) ?_
   have := vr (f + 1) (n / 10)
   omega
theorem yr (n : Nat) (w : World) (h : n ≤ 999999999999999999) : Calls Tryd.prog 33 #[.int .i64 n] w fun e w' => e = .returned (.string (cr (gQ 20 n))) ∧ Below w.heap.size w w' :=
 Lc 19 (by decide) n w (by have : (10 : Nat) ^ 20 = 100000000000000000000 := (by decide); omega) (by omega)
end Go.Proofs.YtkfbbdhidecefaaDoor
