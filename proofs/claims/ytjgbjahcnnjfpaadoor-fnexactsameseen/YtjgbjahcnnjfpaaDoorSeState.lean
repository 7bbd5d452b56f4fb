/- The program's key of what was seen. -/
import Derived.Test.YtjgbjahcnnjfpaaDoorSeNum
import Derived.Test.YtjgbjahcnnjfpaaDoorSeIl
import Derived.Test.YtjgbjahcnnjfpaaDoorShelf
import Derived.Lib.AppendIntMem
import Derived.Lib.Slices
import Derived.Lib.Hide
import Derived.Lib.BufferRead
import Derived.Laws.IdiomStrings
import Derived.OwnWalk
import Derived.WalkKit
import Derived.BigCall
import Derived.WalkSpells
import Derived.WalkSmall
set_option linter.unusedVariables false
namespace Go.Proofs.YtjgbjahcnnjfpaaDoor
open Go.RowKit

theorem info8 : (Tryd.prog.info? 5).map (fun i => (i.zero, i.size, i.bytes)) = some (some (.int .u8 0), 1, 1) := by kernel_rfl
def Tab (w : World) : Prop := Lib.TabIs Tryd.prog w "internal/strconv.uint64pow10" .u64 Lib.pow10Tab
theorem Tab.later {w w' : World} {B : Nat} (h : Tab w) (hb : Below w.heap.size w w') : Tab w' := Lib.tabBelow_of_tabIs h w' hb
/-- The key. -/
def Sn.key (s : Sn) : Value := .agg #[.int .i64 s.k, .int .i64 s.c, .int .i64 s.v, .string (traceS s.tr)]

theorem take_trace {xs : List Int} (k : Nat) (h : k < xs.length) : traceB (xs.take (k + 1)) = traceB (xs.take k) ++ Lib.itoa xs[k] ++ [32] := by
  rw [List.take_succ_eq_append_getElem h, traceB_snoc]
theorem byteCells_snoc (a b : List UInt8) (x : UInt8) : Lib.byteCells a ++ Lib.byteCells b ++ [Value.int .u8 x.toNat] = Lib.byteCells (a ++ b ++ [x]) := by simp [Lib.byteCells]

set_option maxHeartbeats 8000000 in
set_option maxRecDepth 100000 in
theorem state_of (s : Sn) (va vb : Value) (lo hi : Nat) (w : World) (hs : s.Ok) (hc : s.cost ≤ 1048576) (hhi : hi ≤ w.heap.size) (h : At lo hi w s va vb) (ht : Tab w) :
    Calls Tryd.prog 26 #[s.val va vb] w fun e w' => e = .returned s.key ∧ Below w.heap.size w w' := by
  unfold Sn.cost at hc
  obtain ⟨aa, ca, rfl, q1⟩ := h.1
  obtain ⟨ab, cb, rfl⟩ := h.2.shape
  obtain ⟨i0, hi0, hz0, hz1, hz2⟩ := info_parts info8
  have HA := hid_mk q1
  clear q1
  have hlt := hs.2.1
  clear h
  unfold Sn.val Sn.key
  generalize s.k = sk
  generalize s.c = sc
  generalize s.v = sv
  have HO := hid_mk hlt
  have htl : ∀ k, (traceB (s.tr.take k)).length ≤ 22 * k := fun k => Nat.le_trans (traceB_len _ (fun x hx => hlt.2 x (List.mem_of_mem_take hx))) (Nat.mul_le_mul_left _ (by rw [List.length_take]; omega))
  have HTL := hid_mk htl
  generalize hxs : s.tr = xs at *
  clear hs hlt htl hxs
  have P0 : Hid (Five ((w.alloc (.cells #[.int .i64 sk, .int .i64 sc, .int .i64 sv, .slice aa xs.length ca, .slice ab s.sc.length cb] 27)).alloc (.cells #[.int .i64 0, .int .i64 0, .int .i64 0, .string ⟨#[]⟩] 51)) w.heap.size 0 (.int .i64 sk) (.int .i64 sc) (.int .i64 sv) (.slice aa xs.length ca) (.slice ab s.sc.length cb)) := by
    unfold Hid Five; simp [go_sem]
  have HT := hid_mk (Lib.tabBelow_of_tabIs (Lib.tabIs_alloc (Lib.tabIs_alloc ht (.cells #[.int .i64 sk, .int .i64 sc, .int .i64 sv, .slice aa xs.length ca, .slice ab s.sc.length cb] 27)) (.cells #[.int .i64 0, .int .i64 0, .int .i64 0, .string ⟨#[]⟩] 51)))
  go_enter Tryd.func26, Tryd.ntmps26
  go_wp2
  have R0 : Hid (((w.alloc (.cells #[.int .i64 sk, .int .i64 sc, .int .i64 sv, .slice aa xs.length ca, .slice ab s.sc.length cb] 27)).alloc (.cells #[.int .i64 0, .int .i64 0, .int .i64 0, .string ⟨#[]⟩] 51)).heap[w.heap.size + 1]? = some (.cells #[.int .i64 0, .int .i64 0, .int .i64 0, .string ⟨#[]⟩] 51 (0, 0))) := by
    have := heap_alloc_new (w.alloc (.cells #[.int .i64 sk, .int .i64 sc, .int .i64 sv, .slice aa xs.length ca, .slice ab s.sc.length cb] 27)) (.cells #[.int .i64 0, .int .i64 0, .int .i64 0, .string ⟨#[]⟩] 51)
    rw [World.size_alloc] at this
    exact this
  have B0 : Hid (Below w.heap.size w ((w.alloc (.cells #[.int .i64 sk, .int .i64 sc, .int .i64 sv, .slice aa xs.length ca, .slice ab s.sc.length cb] 27)).alloc (.cells #[.int .i64 0, .int .i64 0, .int .i64 0, .string ⟨#[]⟩] 51))) := ((Below.refl _ _).alloc (Nat.le_refl _) _).alloc (by simp) _
  have hsz : ((w.alloc (.cells #[.int .i64 sk, .int .i64 sc, .int .i64 sv, .slice aa xs.length ca, .slice ab s.sc.length cb] 27)).alloc (.cells #[.int .i64 0, .int .i64 0, .int .i64 0, .string ⟨#[]⟩] 51)).heap.size = w.heap.size + 2 := by simp
  revert P0 HT R0 B0 hsz
  generalize ((w.alloc (.cells #[.int .i64 sk, .int .i64 sc, .int .i64 sv, .slice aa xs.length ca, .slice ab s.sc.length cb] 27)).alloc (.cells #[.int .i64 0, .int .i64 0, .int .i64 0, .string ⟨#[]⟩] 51)) = W
  intro P0 HT R0 B0 hsz0
  have hsz : w.heap.size + 2 ≤ W.heap.size := by omega
  clear hsz0
  go_loopw [3, 9] (fun tv i wr => ∃ (k : Nat) (sa : Option Addr) (sn scp : Nat), k ≤ xs.length ∧ tv = .slice sa sn scp ∧ i = .int .i64 k ∧ Hid (wr.ownsRow W.heap.size 5 1 (.slice sa sn scp) (traceB (xs.take k)).length (Lib.byteCells (traceB (xs.take k)))) ∧ Below W.heap.size W wr) (fun _ i _ => xs.length - (intOf i).toNat)
  case atStart => exact ⟨0, none, 0, 0, by omega, rfl, rfl, by simpa [Hid, traceB_nil, Lib.byteCells] using World.ownsRow_nil _ _ _ _, Below.refl _ _⟩
  case round =>
    obtain ⟨k, sa, sn, scp, hk, rfl, rfl, ho, hbw⟩ := hrel
    have hbz := hbw.size
    by_cases hlt : k < xs.length
    · rcases HA.out with h0 | ⟨ga, oa, rfl, _, hga, h3⟩
      · omega
      have a0 := h3 k hlt
      rw [← B0.out.cell (p := ⟨ga, _, none⟩) (by show ga < w.heap.size; omega), ← hbw.cell (p := ⟨ga, _, none⟩) (by show ga < W.heap.size; omega)] at a0
      obtain ⟨x0, x1⟩ := HO.out.at k hlt
      have hT := HTL.out k
      have HS := hid_mk (take_trace k hlt)
      clear h3
      generalize xs[k] = tk at *
      have hki : (k : Int) < (xs.length : Int) := by omega
      have la := Lib.itoa_length_le tk x0 x1
      have HTW := hid_mk (HT.out.on hbw)
      go_wp2_with fail
      refine (Tryd.strconv_AppendInt_10 W.heap.size _ tk x0 x1 _ _ wr ho.out hbz (by omega) HTW.out).mono ?_
      rintro e w1 ⟨v1, rfl, ho1, hb1, -⟩
      have hb1z := hb1.size
      have BW := hid_mk (hbw.trans hb1)
      have HO1 := hid_mk ho1
      obtain ⟨a1, l1, c1, rfl⟩ : ∃ a l c, v1 = .slice a l c := by
        rcases ho1.2 with ⟨rfl, _⟩ | ⟨g, cap, cur, rfl, _⟩
        · exact ⟨_, _, _, rfl⟩
        · exact ⟨_, _, _, rfl⟩
      clear ho1 hb1 ho hbw a0
      go_wp2_with (at_builtin; refine wpList_append_own _ rfl _ _ 61 rfl W.heap.size 5 i0 (.int .u8 0) 1 1 Tryd.underlying61 hi0 hz0 hz1 hz2 rfl (by decide) _ _ _ rfl (HO1.out.alloc _) ⟨w1.heap.size, 0, none⟩ 1 1 [Value.int .u8 32] rfl rfl (by intro j u' hj; match j, hj with | 0, hj => simp at hj; subst hj; simp [Addr.add]) (by intro u' hu'; simp at hu'; subst hu'; rfl) (by unfold maxLen; omega) (by omega) (by simp; omega) ?_)
      intro v2 w2 ho2 hgrow _
      have HB2 : Hid (Below W.heap.size W w2) := (BW.out.alloc (by have := BW.out.size; omega) _).grown hgrow (by have := BW.out.size; simp; omega) (fun k hk => (HO1.out.lt k hk).1)
      have HO2 : Hid (w2.ownsRow W.heap.size 5 1 v2 (traceB (xs.take (k + 1))).length (Lib.byteCells (traceB (xs.take (k + 1))))) := by
        have e1 := byteCells_snoc (traceB (xs.take k)) (Lib.itoa tk) 32
        have e2 : (traceB (xs.take k)).length + (Lib.itoa tk).length + 1 = (traceB (xs.take k) ++ Lib.itoa tk ++ [32]).length := by simp; omega
        rw [HS.out, ← e1, ← e2]
        rw [List.append_assoc]
        exact ho2
      obtain ⟨a2, l2, c2, rfl⟩ : ∃ a l c, v2 = .slice a l c := by
        rcases ho2.2 with ⟨rfl, _⟩ | ⟨g, cap, cur, rfl, _⟩
        · exact ⟨_, _, _, rfl⟩
        · exact ⟨_, _, _, rfl⟩
      clear ho2 hgrow HO1 BW HS
      go_wp2
      exact ⟨⟨k + 1, a2, l2, c2, by omega, rfl, by go_num, HO2.out, HB2.out⟩, by simp [intOf]; omega⟩
    · obtain rfl : k = xs.length := by omega
      rw [List.take_length] at ho
      obtain ⟨p0, p1, p2, p3, p4⟩ := P0.out.keep hbw (by omega)
      have r0 : wr.heap[w.heap.size + 1]? = _ := (hbw.block (w.heap.size + 1) (by omega)).trans R0.out
      have B1 := hid_mk (B0.out.trans (hbw.mono (by omega)))
      have q0 : wr.cell? ⟨w.heap.size + 1, 0, none⟩ = some (.int .i64 0) := by simp [World.cell?, r0]
      have q1 : wr.cell? ⟨w.heap.size + 1, 1, none⟩ = some (.int .i64 0) := by simp [World.cell?, r0]
      have q2 : wr.cell? ⟨w.heap.size + 1, 2, none⟩ = some (.int .i64 0) := by simp [World.cell?, r0]
      have q3 : wr.cell? ⟨w.heap.size + 1, 3, none⟩ = some (.string ⟨#[]⟩) := by simp [World.cell?, r0]
      have f0 := fun o => frozen_of_row wr (w.heap.size + 1) o _ _ r0
      have hcv : (convert 61 9 (.slice sa sn scp)).run Tryd.prog wr = .ok (.string (traceS xs)) wr := by
        rcases ho.out.2 with ⟨e1, e2⟩ | ⟨g, cap, cur, e1, -, -, -, -, -, -⟩
        · have e3 := List.eq_nil_of_length_eq_zero e2
          rw [e1]
          unfold traceS
          rw [e3]
          exact Lib.run_convert_nil_bytes wr 61 9 5 0 Tryd.underlying61 Tryd.underlying5 Tryd.underlying9
        · rw [e1]
          exact run_convert_bytes_back (P := Tryd.prog) wr 61 9 5 ⟨g, 0, none⟩ cap (traceB xs) Tryd.underlying61 Tryd.underlying5 Tryd.underlying9 (fun j hj => ho.out.cells (g := g) (by rw [e1]; rfl) j _ (by simp [Lib.byteCells, hj]))
      clear ho r0 P0 R0
      go_wp2
      refine bodyPost_ret (v := .agg #[.int .i64 sk, .int .i64 sc, .int .i64 sv, .string (traceS xs)]) (by simp [results, Tryd.results26, go_sem, q0, q1, q2, q3]) rfl ⟨rfl, ?_⟩
      exact ((((B1.out.setCell (p := ⟨w.heap.size + 1, 0, none⟩) (by show w.heap.size ≤ w.heap.size + 1; omega) _).setCell (p := ⟨w.heap.size + 1, 1, none⟩) (by show w.heap.size ≤ w.heap.size + 1; omega) _).setCell (p := ⟨w.heap.size + 1, 2, none⟩) (by show w.heap.size ≤ w.heap.size + 1; omega) _).setCell (p := ⟨w.heap.size + 1, 3, none⟩) (by show w.heap.size ≤ w.heap.size + 1; omega) _)
end Go.Proofs.YtjgbjahcnnjfpaaDoor
