/- The specification's checker: every expression. -/
import Derived.Test.YtbjianmjdadehaaGreatDoorKdC
import Derived.Test.YtbjianmjdadehaaGreatDoorKdD
import Derived.Test.YtbjianmjdadehaaGreatDoorKdE
import Derived.Test.YtbjianmjdadehaaGreatDoorKdF
import Derived.Test.YtbjianmjdadehaaGreatDoorKdG
set_option linter.unusedVariables false
namespace Go.Proofs.YtbjianmjdadehaaGreatDoor
open Go.RowKit

theorem lvl_five (s : ByteArray) : lvl s ≤ 5 := by
  unfold lvl
  repeat' split
  all_goals omega
theorem ty_all {T : Nd} (ih : ∀ i, i < T.len → ExS (T.kids i)) : TyS T := by
  intro K w0 own0 s ret loops outs w v hS hE hN hfit hok
  rcases eo_kind hok with h | h | h | h | h | h | h | h
  · exact ty_22 h K w0 own0 s ret loops outs w v hS hE hN hfit hok
  · exact ty_23 h K w0 own0 s ret loops outs w v hS hE hN hfit hok
  · exact ty_24 h K w0 own0 s ret loops outs w v hS hE hN hfit hok
  · exact ty_25 h ih K w0 own0 s ret loops outs w v hS hE hN hfit hok
  · have hl := (eo_26 h hok).1
    by_cases h0 : T.len = 0
    · exact ty_26a h h0 K w0 own0 s ret loops outs w v hS hE hN hfit hok
    · exact ty_26b h (by omega) ih K w0 own0 s ret loops outs w v hS hE hN hfit hok
  · cases hn : notB T.name with
    | true => exact ty_27n h hn ih K w0 own0 s ret loops outs w v hS hE hN hfit hok
    | false => exact ty_27m h hn ih K w0 own0 s ret loops outs w v hS hE hN hfit hok
  · have h0 := (eo_28 h hok).1
    have h5 := lvl_five T.name
    cases he : eqB T.name with
    | true => exact ty_28e h he ih K w0 own0 s ret loops outs w v hS hE hN hfit hok
    | false =>
      have : lvl T.name = 1 ∨ lvl T.name = 2 ∨ lvl T.name = 3 ∨ lvl T.name = 4 ∨ lvl T.name = 5 := by omega
      rcases this with hl | hl | hl | hl | hl
      · exact ty_28_1 h hl ih K w0 own0 s ret loops outs w v hS hE hN hfit hok
      · exact ty_28_2 h hl ih K w0 own0 s ret loops outs w v hS hE hN hfit hok
      · exact ty_28_3 h hl he ih K w0 own0 s ret loops outs w v hS hE hN hfit hok
      · exact ty_28_4 h hl ih K w0 own0 s ret loops outs w v hS hE hN hfit hok
      · exact ty_28_5 h hl ih K w0 own0 s ret loops outs w v hS hE hN hfit hok
  · exact ty_29 h ih K w0 own0 s ret loops outs w v hS hE hN hfit hok
theorem ex_every (T : Nd) : ExS T := by
  induction T with
  | nil => exact expr_of (ty_all fun i hi => absurd hi (Nat.not_lt_zero i))
  | mk k n s len kids ih => exact expr_of (ty_all fun i _ => ih i)
theorem want_every (T : Nd) : WtS T := want_of (ex_every T)
end Go.Proofs.YtbjianmjdadehaaGreatDoor
namespace Go.Proofs.YtbjianmjdadehaaGreatDoor
open Go.RowKit

def StS (T : Nd) : Prop := ∀ (K : SK) (w0 : World) (own0 : Option Nat) (s : CS) (cx : Cx) (w : World) (v : Value), SS K w0 own0 (.ok s) cx.ret cx.loops cx.outs w → SEnv K w → SNd K w T v → s.2.length + T.size ≤ K.N → T.sOk = true → s.1 ≠ [] → cx.loops + T.size ≤ 1099511627776 → cx.outs + T.size ≤ 1099511627776 →
  Calls Tryz.prog 68 #[.pointer (some ⟨K.cb, 0, none⟩), T.val v, .int .i64 s.2.length] w fun e w' => e = .returned (.tuple #[]) ∧ SS K w0 own0 ((mnT K.F T).st cx s) cx.ret cx.loops cx.outs w'

structure SList (K : SK) (w1 : World) (own1 : Option Nat) (T : Nd) (p d m : Nat) (lv uv : Value) (u : Nat → Value) : Prop where
  lv : ∃ a cap, lv = .slice a m cap ∧ m ≤ cap ∧ cap ≤ 9223372036854775807 ∧ ∃ a' ca, uv = .slice a' m ca ∧ m ≤ ca ∧ ca ≤ 9223372036854775807 ∧ (m = 0 ∨ ∃ g off ga oa, a = some ⟨g, off, none⟩ ∧ a' = some ⟨ga, oa, none⟩ ∧
    ∀ W σ r l o, SS K w1 own1 σ r l o W → ∀ i, i < m → W.cell? ⟨ga, oa + i, none⟩ = some (.int .i64 (kidAt T p (d + i) : Nat)) ∧
      W.cell? ⟨g, off + i * 4, none⟩ = some (.int .i64 (T.kids (d + i)).kind) ∧ W.cell? ⟨g, off + i * 4 + 1, none⟩ = some (.int .i64 (T.kids (d + i)).num) ∧ W.cell? ⟨g, off + i * 4 + 2, none⟩ = some (.string (T.kids (d + i)).name) ∧ W.cell? ⟨g, off + i * 4 + 3, none⟩ = some (u i))
  env : ∀ W σ r l o, SS K w1 own1 σ r l o W → SEnv K W
  nd : ∀ W σ r l o, SS K w1 own1 σ r l o W → ∀ i, i < m → SNd K W (T.kids (d + i)) (u i)

theorem kid_size (T : Nd) {i : Nat} (h : i < T.len) : (T.kids i).size + 1 ≤ T.size := by
  have := kidAt_le T 0 h
  unfold kidAt at this
  omega
def seqC (F T : Nd) (cx : Cx) (d m : Nat) (σ : CR CS) : CR CS := CR.bind σ (forN (fun i => (mnT F (T.kids (d + i))).st cx) m)
theorem seqC_succ (F T : Nd) (cx : Cx) (d m : Nat) (σ : CR CS) : seqC F T cx d (m + 1) σ = CR.bind (seqC F T cx d m σ) ((mnT F (T.kids (d + m))).st cx) := by
  unfold seqC
  cases σ <;> rfl
theorem seqC_err {F T : Nd} {cx : Cx} {d m : Nat} {σ : CR CS} {e : Int × Nat} (h : seqC F T cx d m σ = .error e) : ∀ {n : Nat}, m ≤ n → seqC F T cx d n σ = .error e := by
  intro n hn
  induction hn with
  | refl => exact h
  | step _ ih => rw [seqC_succ, ih]; rfl

set_option maxHeartbeats 4000000 in
set_option maxRecDepth 100000 in
theorem all_of {K : SK} {w1 : World} {own1 : Option Nat} {T : Nd} {p d m : Nat} {lv uv : Value} {u : Nat → Value} (hL : SList K w1 own1 T p d m lv uv u) (ih : ∀ i, i < m → StS (T.kids (d + i))) (σ : CR CS) (cx : Cx) (w : World) (hS : SS K w1 own1 σ cx.ret cx.loops cx.outs w)
    (hdm : d + m ≤ T.len) (hok : ∀ i, i < m → (T.kids (d + i)).sOk = true) (hat : ∀ s, σ = .ok s → s.2.length = kidAt T p d ∧ s.1 ≠ []) (hfit : p + T.size ≤ K.N) (hl : ∀ i, i < m → cx.loops + (T.kids (d + i)).size ≤ 1099511627776) (ho : ∀ i, i < m → cx.outs + (T.kids (d + i)).size ≤ 1099511627776) :
    Calls Tryz.prog 50 #[.pointer (some ⟨K.cb, 0, none⟩), lv, uv] w fun e w' => e = .returned (.tuple #[]) ∧ SS K w1 own1 (seqC K.F T cx d m σ) cx.ret cx.loops cx.outs w' := by
  have hfew := hS.ok.few
  obtain ⟨a, cap, rfl, hc1, hc2, a', ca, rfl, hc3, hc4, hcells⟩ := hL.lv
  have HL := hid_mk hL
  have HCC := hid_mk hcells
  have HS := hid_mk hS
  have HST : Hid (∀ n, n ≤ m → ∀ s, seqC K.F T cx d n σ = .ok s → s.2.length = kidAt T p (d + n) ∧ s.1 ≠ []) := by
    intro n
    induction n with
    | zero =>
      intro _ s hs
      unfold seqC at hs
      obtain ⟨s0, h1, h2⟩ := bind_inv hs
      injection h2 with h2; subst h2
      exact hat s0 h1
    | succ n ihn =>
      intro hn s hs
      rw [seqC_succ] at hs
      obtain ⟨s0, h1, h2⟩ := bind_inv hs
      obtain ⟨q1, q2⟩ := ihn (by omega) s0 h1
      obtain ⟨r1, r2, r3, _⟩ := (mn_len K.F (T.kids (d + n))).st (hok n (by omega)) cx s0 s q2 h2
      refine ⟨?_, ?_⟩
      · rw [r3, q1, show d + (n + 1) = d + n + 1 by omega, kidAt_succ]
      · intro e; rw [e] at r2; exact q2 (List.length_eq_zero_iff.1 r2.symm)
  have HKA := hid_mk (fun i (h : i < m) => kidAt_le T p (i := d + i) (by omega))
  have HIH := hid_mk ih
  have HOK := hid_mk hok
  have HHL := hid_mk hl
  have HHO := hid_mk ho
  clear hL hcells hS ih hok hat hl ho
  go_enter Tryz.func50, Tryz.ntmps50
  go_wp2
  have hmix : Tryz.prog.follows Departure.mixedOrders = true := by kernel_rfl
  go_loopw [6] (fun i wr => ∃ n : Nat, n ≤ m ∧ i = .int .i64 n ∧ SS K w1 own1 (seqC K.F T cx d n σ) cx.ret cx.loops cx.outs wr) (fun i _ => m - (intOf i).toNat)
  case atStart =>
    refine ⟨0, Nat.zero_le _, rfl, ?_⟩
    have : seqC K.F T cx d 0 σ = σ := by unfold seqC; cases σ <;> rfl
    rw [this]; exact HS.out
  case round =>
    obtain ⟨n, hn, rfl, hss⟩ := hrel
    by_cases hlt : n < m
    · have hni : (n : Int) < (m : Int) := by omega
      rcases HCC.out with h0 | ⟨g, off, ga, oa, rfl, rfl, hc⟩
      · omega
      obtain ⟨an, c0, c1, c2, c3⟩ := hc _ _ _ _ _ hss n hlt
      cases hq : seqC K.F T cx d n σ with
      | error e0 =>
        rw [hq] at hss
        obtain ⟨code, k5, hz⟩ := hss.code1
        have HSS := hid_mk hss
        have HQ := hid_mk hq
        clear hss hq hc
        go_wp2
        go_end0
        refine ⟨rfl, ?_⟩
        rw [seqC_err HQ.out hn]
        exact HSS.out
      | ok s =>
        rw [hq] at hss
        have k5 := hss.code0
        obtain ⟨hp, hs1⟩ := HST.out n hn s hq
        have hka := HKA.out n hlt
        have HW := hid_mk (HIH.out n hlt K w1 own1 s cx wr.drew (u n) hss.drew (HL.out.env _ _ _ _ _ hss.drew) (HL.out.nd _ _ _ _ _ hss.drew n hlt) (by rw [hp]; omega) (HOK.out n hlt) hs1 (HHL.out n hlt) (HHO.out n hlt))
        rw [hp] at HW
        unfold Nd.val at HW
        have HQ := hid_mk hq
        clear hss hq hp hc hka
        generalize kidAt T p (d + n) = kp at *
        go_wp2
        go_still_tail 9, hmix
        go_wp2_with (go_at_call 68; refine HW.out.mono ?_; rintro e w5 ⟨rfl, hs5⟩; have HS5 := hid_mk hs5; clear hs5)
        refine ⟨⟨n + 1, by omega, by go_num, ?_⟩, by simp [intOf]; omega⟩
        rw [seqC_succ, HQ.out]
        exact HS5.out
    · have HSS := hid_mk hss
      clear hss
      go_wp2
      go_end0
      obtain rfl : n = m := by omega
      exact ⟨rfl, HSS.out⟩
end Go.Proofs.YtbjianmjdadehaaGreatDoor
namespace Go.Proofs.YtbjianmjdadehaaGreatDoor
open Go.RowKit

theorem SS.deep {K : SK} {w0 : World} {own0 : Option Nat} {s : CS} {ret loops outs : Int} {w : World} (h : SS K w0 own0 (.ok s) ret loops outs w) : w.cell? ⟨K.cb, 8, none⟩ = some (.int .i64 (s.1.length : Nat)) ∧ w.frozen? ⟨K.cb, 8, none⟩ = false ∧ s.1.length ≤ 1048577 := by
  obtain ⟨vv, code, place, deep, zs, vs, h1, ⟨a1, a2, a3, a4, a5, a6, a7, a8⟩, h3⟩ := h.is
  have := h.ok.few
  refine ⟨?_, h1.free 8, by omega⟩
  rw [← a3]; exact h1.cells.2.2.2.2.2.2.2.2.1
theorem SS.deeper {K : SK} {w0 : World} {own0 : Option Nat} {s : CS} {ret loops outs : Int} {w : World} (h : SS K w0 own0 (.ok s) ret loops outs w) (hl : s.1.length ≤ s.2.length) :
    SS K w0 own0 (.ok ([] :: s.1, s.2)) ret loops outs (w.setCell ⟨K.cb, 8, none⟩ (.int .i64 ((s.1.length : Int) + 1))) := by
  obtain ⟨vv, code, place, deep, zs, vs, h1, ⟨a1, a2, a3, a4, a5, a6, a7, a8⟩, h3⟩ := h.is
  have r1 := h1.set h.ok (i := 8) (u := .int .i64 ((s.1.length : Int) + 1)) (code' := code) (place' := place) (deep' := (s.1.length : Int) + 1) (ret' := ret) (loops' := loops) (outs' := outs) rfl
  refine h.of_raw (own := own0) r1 ⟨a1, a2, by simp, a4, a5, ?_, ?_, ?_⟩ h3 (.inl rfl) (Kept.setCell (S := K.S own0) ⟨K.cb, 8, none⟩ _ (.inl rfl))
  · rw [a6]; simp [varsOf]
  · have e : varLen ([] :: s.1, s.2).1 = varLen s.1 := by simp [varLen]
    rw [e]; exact a7
  · show ([] :: s.1).length ≤ _; simp; omega
theorem SS.lens {K : SK} {w0 : World} {own0 : Option Nat} {s : CS} {ret loops outs : Int} {w : World} (h : SS K w0 own0 (.ok s) ret loops outs w) : varLen s.1 ≤ s.2.length ∧ s.1.length ≤ s.2.length + 1 := by
  obtain ⟨vv, code, place, deep, zs, vs, h1, ⟨a1, a2, a3, a4, a5, a6, a7, a8⟩, h3⟩ := h.is
  exact ⟨a7, a8⟩
theorem blk_join {F T : Nd} {cx : Cx} {s : CS} (l : List (ByteArray × Int)) (hk : T.kind ≠ 0) : leaveC (seqC F T cx 0 T.len (.ok (l :: s.1, s.2 ++ [0]))) = within l ((mnT F T).sts cx) s := by
  rw [stsM_at F hk]
  unfold leaveC seqC within listM take0
  simp only [CR.bind_ok, Nat.zero_add]
theorem seq_ne {F T : Nd} {cx : Cx} {s : CS} (h4 : T.kind = 4) (hok : T.sOk = true) (hs : s.1 ≠ []) : ∀ s', seqC F T cx 0 T.len (.ok s) = .ok s' → s'.1 ≠ [] := by
  intro s' e
  unfold seqC at e
  simp only [CR.bind_ok, Nat.zero_add] at e
  have := (StL.forN (g := fun i => (T.kids i).size) (fun i hi => (mn_len F (T.kids i)).st (so_4 h4 hok i hi) cx) (Nat.le_refl _)) s s' hs e
  intro h; rw [h] at this; exact hs (List.length_eq_zero_iff.1 this.2.1.symm)
theorem slist_of {K : SK} {w w1 : World} {own1 : Option Nat} {b : Nat} {T : Nd} {a : Option Addr} {cap : Nat} {u : Value} {p : Nat} (hg : SGo K w w1 own1 b T (.slice a T.len cap) u p) (hE : SEnv K w) (hN : SNd K w T (.slice a T.len cap)) (hu : T.len = 0 → ∃ a' ca, u = .slice a' 0 ca ∧ ca ≤ 9223372036854775807) :
    ∃ us, SList K w1 own1 T p 0 T.len (.slice a T.len cap) u us := by
  by_cases h0 : T.len = 0
  · obtain ⟨a', ca, rfl, hca⟩ := hu h0
    obtain ⟨a2, c2, e2, hc2, _⟩ := row_eq.1 hN.row
    injection e2 with e3 e4 e5
    subst e5
    refine ⟨fun _ => .tuple #[], ⟨⟨a, cap, rfl, hc2.1, hc2.2, a', ca, by rw [h0], by omega, hca, .inl h0⟩, fun W σ r l o hW => hg.env hE hW, fun W σ r l o hW i hi => by omega⟩⟩
  · obtain ⟨g, off, cap', hv, hgl, hcap, hkid⟩ := ck_kid hN.row h0
    injection hv with e1 e2 e3
    subst e1
    subst e3
    obtain ⟨ga, oa, ca, rfl, hca, hav⟩ := hg.ats h0
    refine ⟨fun i => if h : i < T.len then (hkid i h).choose else .tuple #[], ⟨⟨_, cap, rfl, hcap.1, hcap.2, _, ca, rfl, hca.1, hca.2, .inr ⟨g, off, ga, oa, rfl, rfl, fun W σ r l o hW i hi => ?_⟩⟩, fun W σ r l o hW => hg.env hE hW, fun W σ r l o hW i hi => ?_⟩⟩
    · have hx := (hkid i hi).choose_spec.1 W (hg.below W σ r l o hW)
      simp only [Nat.zero_add, hi, dif_pos]
      exact ⟨hav W σ r l o hW i hi, hx⟩
    · have hx := (hkid i hi).choose_spec.2
      simp only [Nat.zero_add, hi, dif_pos]
      exact (hN.kid hi hx).later (hg.below W σ r l o hW)

set_option maxHeartbeats 4000000 in
set_option maxRecDepth 100000 in
theorem blk_of {T : Nd} (h4 : T.kind = 4) (ih : ∀ i, i < T.len → StS (T.kids i)) (K : SK) (w0 : World) (own0 : Option Nat) (s : CS) (cx : Cx) (w : World) (v : Value) (hS : SS K w0 own0 (.ok s) cx.ret cx.loops cx.outs w) (hE : SEnv K w) (hN : SNd K w T v) (hfit : s.2.length + T.size ≤ K.N) (hok : T.sOk = true) (hl : cx.loops + T.size ≤ 1099511627776) (ho : cx.outs + T.size ≤ 1099511627776) (na : Nat) :
    Calls Tryz.prog 87 #[.pointer (some ⟨K.cb, 0, none⟩), T.val v, .int .i64 s.2.length, .string ⟨#[]⟩, .int .i64 na] w fun e w' => e = .returned (.tuple #[]) ∧ SS K w0 own0 (within [] ((mnT K.F T).sts cx) s) cx.ret cx.loops cx.outs w' := by
  have hfew := hS.ok.few
  have hlt := hS.lt
  have hcl := hS.ok.cl
  have hsz : 0 < T.size := by rw [T.size_eq]; omega
  have hlens := hS.lens
  obtain ⟨a, cap, hv, hcap, hq0⟩ := row_eq.1 hN.row
  subst hv
  clear hq0
  have HATS := hid_mk (fun o => ats_any T (w.alloc o) _ K.lo s.2.length hN.fine (by simp; omega) (row_below (hS.box o) (Nat.le_refl _) hN.row) hN.cost (by omega))
  have HGO := hid_mk (fun (w1 : World) (u : Value) (t : TypeId) hb ha => sgo_of (w1 := w1) (T := T) (v := .slice a T.len cap) (p := s.2.length) (u := u) (t := t) hS hb ha)
  have HSL := hid_mk (fun (w1 : World) (own1 : Option Nat) (b : Nat) (u : Value) (hg : SGo K w w1 own1 b T (.slice a T.len cap) u s.2.length) hu => slist_of hg hE hN hu)
  have HAL := hid_mk (fun (w1 : World) (own1 : Option Nat) (u : Value) us (hL : SList K w1 own1 T s.2.length 0 T.len (.slice a T.len cap) u us) (W : World) (hW : SS K w1 own1 (.ok ([] :: s.1, s.2 ++ [0])) cx.ret cx.loops cx.outs W) => all_of hL (fun i hi => by rw [Nat.zero_add]; exact ih i hi) _ cx W hW (by omega) (fun i hi => by rw [Nat.zero_add]; exact so_4 h4 hok i hi) (fun s' e => by injection e with e; subst e; exact ⟨by simp [kidAt, sumTo], by simp⟩) hfit (fun i hi => by rw [Nat.zero_add]; have := kid_size T hi; omega) (fun i hi => by rw [Nat.zero_add]; have := kid_size T hi; omega))
  have HNE := hid_mk (seq_ne (F := K.F) (cx := cx) (s := ([] :: s.1, s.2 ++ [0])) h4 hok (by simp))
  have HJ := hid_mk (blk_join (F := K.F) (cx := cx) (s := s) [] (show T.kind ≠ 0 by omega))
  have HKD := hid_mk h4
  have HFIT : Hid (s.2.length + 1 ≤ K.N) := by unfold Hid; omega
  unfold Nd.val at *
  rw [h4] at HATS HGO ⊢
  clear hS hE hN h4 hok ih hfit hsz
  generalize hτ : within [] ((mnT K.F T).sts cx) s = τ at *
  clear hτ
  go_enter Tryz.func87, Tryz.ntmps87
  go_wp2_with (first
    | (go_at_call 36; refine (HATS.out _).mono ?_; rintro e w1 ⟨u, rfl, hats, hb1⟩; obtain ⟨own1, hs1, hback, hgo⟩ := HGO.out w1 u _ hb1 hats; obtain ⟨b0, b1, b2, b3⟩ := hgo.box _ _ _ _ _ hs1; have hus : T.len = 0 → ∃ a' ca, u = .slice a' 0 ca ∧ ca ≤ 9223372036854775807 := (by obtain ⟨q1, q2, q3, q4, q5, _⟩ := hats; intro h0; exact ⟨q1, q2, by rw [q3, h0], q5⟩); obtain ⟨us, hsl⟩ := HSL.out w1 own1 _ u hgo hus; have hs1' := hs1.take HFIT.out; obtain ⟨k8, f8, hd8⟩ := hs1'.deep; have HS1 := hid_mk (hs1'.deeper (by rw [take0_len]; have := hlens.2; exact this)); have HG := hid_mk hgo; have HSL1 := hid_mk hsl; have HBK := hid_mk hback; clear hs1 hs1' hback hgo hats hb1 hsl hus)
    | (go_at_call 50; refine (HAL.out w1 own1 u us HSL1.out _ HS1.out).mono ?_; rintro e w2 ⟨rfl, hs2⟩; have HS2 := hid_mk hs2; clear hs2)
    | (go_at_call 101; refine (leave_any HS2.out HNE.out).mono ?_; rintro e w3 ⟨rfl, hs3⟩; have HS3 := hid_mk (HBK.out _ _ _ _ _ hs3); clear hs3))
  go_end0
  refine ⟨rfl, ?_⟩
  rw [← HJ.out]
  exact HS3.out
end Go.Proofs.YtbjianmjdadehaaGreatDoor
namespace Go.Proofs.YtbjianmjdadehaaGreatDoor
open Go.RowKit

theorem name_forms {s : ByteArray} (h : emptyB s = false) : (s.toList == []) = false ∧ (s.toList != []) = true := by
  have e1 : (⟨#[]⟩ : ByteArray).toList = [] := by rw [ByteArray.toList_eq]
  have h1 : (s.toList == (⟨#[]⟩ : ByteArray).toList) = false := str_ne (fun e => by subst e; simp [emptyB] at h)
  rw [e1] at h1
  exact ⟨h1, by simp only [bne, h1]; rfl⟩
set_option maxHeartbeats 4000000 in
set_option maxRecDepth 100000 in
theorem blk_nm {T : Nd} (h4 : T.kind = 4) (ih : ∀ i, i < T.len → StS (T.kids i)) (K : SK) (w0 : World) (own0 : Option Nat) (s : CS) (cx : Cx) (w : World) (v : Value) (hS : SS K w0 own0 (.ok s) cx.ret cx.loops cx.outs w) (hE : SEnv K w) (hN : SNd K w T v) (hfit : s.2.length + T.size ≤ K.N) (hok : T.sOk = true) (hl : cx.loops + T.size ≤ 1099511627776) (ho : cx.outs + T.size ≤ 1099511627776) (name : ByteArray) (na : Nat) (hnm : emptyB name = false) :
    Calls Tryz.prog 87 #[.pointer (some ⟨K.cb, 0, none⟩), T.val v, .int .i64 s.2.length, .string name, .int .i64 na] w fun e w' => e = .returned (.tuple #[]) ∧ SS K w0 own0 (within [(name, 1)] ((mnT K.F T).sts cx) s) cx.ret cx.loops cx.outs w' := by
  have hfew := hS.ok.few
  have hlt := hS.lt
  have hcl := hS.ok.cl
  have hsz : 0 < T.size := by rw [T.size_eq]; omega
  have hlens := hS.lens
  obtain ⟨a, cap, hv, hcap, hq0⟩ := row_eq.1 hN.row
  subst hv
  clear hq0
  have HATS := hid_mk (fun o => ats_any T (w.alloc o) _ K.lo s.2.length hN.fine (by simp; omega) (row_below (hS.box o) (Nat.le_refl _) hN.row) hN.cost (by omega))
  have HGO := hid_mk (fun (w1 : World) (u : Value) (t : TypeId) hb ha => sgo_of (w1 := w1) (T := T) (v := .slice a T.len cap) (p := s.2.length) (u := u) (t := t) hS hb ha)
  have HSL := hid_mk (fun (w1 : World) (own1 : Option Nat) (b : Nat) (u : Value) (hg : SGo K w w1 own1 b T (.slice a T.len cap) u s.2.length) hu => slist_of hg hE hN hu)
  have HAL := hid_mk (fun (w1 : World) (own1 : Option Nat) (u : Value) us (hL : SList K w1 own1 T s.2.length 0 T.len (.slice a T.len cap) u us) (W : World) (hW : SS K w1 own1 (.ok ([(name, 1)] :: s.1, s.2 ++ [0])) cx.ret cx.loops cx.outs W) => all_of hL (fun i hi => by rw [Nat.zero_add]; exact ih i hi) _ cx W hW (by omega) (fun i hi => by rw [Nat.zero_add]; exact so_4 h4 hok i hi) (fun s' e => by injection e with e; subst e; exact ⟨by simp [kidAt, sumTo], by simp⟩) hfit (fun i hi => by rw [Nat.zero_add]; have := kid_size T hi; omega) (fun i hi => by rw [Nat.zero_add]; have := kid_size T hi; omega))
  have HNE := hid_mk (seq_ne (F := K.F) (cx := cx) (s := ([(name, 1)] :: s.1, s.2 ++ [0])) h4 hok (by simp))
  have HJ := hid_mk (blk_join (F := K.F) (cx := cx) (s := s) [(name, 1)] (show T.kind ≠ 0 by omega))
  have HDV : Hid (varLen ([] :: (take0 s).1) + 1 ≤ (take0 s).2.length) := by
    have e : varLen ([] :: (take0 s).1) = varLen s.1 := by simp [varLen, take0]
    unfold Hid; rw [e, take0_len]; omega
  have HDC : Hid (declC ([] :: s.1, s.2 ++ [0]) name 1 na = .ok ([(name, 1)] :: s.1, s.2 ++ [0])) := rfl
  obtain ⟨hn1, hn2⟩ := name_forms hnm
  have HKD := hid_mk h4
  have HFIT : Hid (s.2.length + 1 ≤ K.N) := by unfold Hid; omega
  unfold Nd.val at *
  rw [h4] at HATS HGO ⊢
  clear hS hE hN h4 hok ih hfit hsz
  generalize hτ : within [(name, 1)] ((mnT K.F T).sts cx) s = τ at *
  clear hτ
  go_enter Tryz.func87, Tryz.ntmps87
  go_wp2_with (first
    | (go_at_call 36; refine (HATS.out _).mono ?_; rintro e w1 ⟨u, rfl, hats, hb1⟩; obtain ⟨own1, hs1, hback, hgo⟩ := HGO.out w1 u _ hb1 hats; obtain ⟨b0, b1, b2, b3⟩ := hgo.box _ _ _ _ _ hs1; have hus : T.len = 0 → ∃ a' ca, u = .slice a' 0 ca ∧ ca ≤ 9223372036854775807 := (by obtain ⟨q1, q2, q3, q4, q5, _⟩ := hats; intro h0; exact ⟨q1, q2, by rw [q3, h0], q5⟩); obtain ⟨us, hsl⟩ := HSL.out w1 own1 _ u hgo hus; have hs1' := hs1.take HFIT.out; obtain ⟨k8, f8, hd8⟩ := hs1'.deep; have HS1 := hid_mk (hs1'.deeper (by rw [take0_len]; have := hlens.2; exact this)); have HG := hid_mk hgo; have HSL1 := hid_mk hsl; have HBK := hid_mk hback; clear hs1 hs1' hback hgo hats hb1 hsl hus)
    | (go_at_call 49; go_loud (refine (declare_any HS1.out name 1 na (by simp) HDV.out).mono ?_; rintro e w4 ⟨rfl, hs4⟩; have hs4' := hs4; rw [show declC ([] :: (take0 s).1, (take0 s).2) name 1 na = .ok ([(name, 1)] :: s.1, s.2 ++ [0]) from HDC.out] at hs4'; obtain ⟨b0, b1, b2, b3⟩ := HG.out.box _ _ _ _ _ hs4'; have HS4 := hid_mk hs4'; clear hs4 hs4'))
    | (go_at_call 50; refine (HAL.out w1 own1 u us HSL1.out _ HS4.out).mono ?_; rintro e w2 ⟨rfl, hs2⟩; have HS2 := hid_mk hs2; clear hs2)
    | (go_at_call 101; refine (leave_any HS2.out HNE.out).mono ?_; rintro e w3 ⟨rfl, hs3⟩; have HS3 := hid_mk (HBK.out _ _ _ _ _ hs3); clear hs3))
  go_end0
  refine ⟨rfl, ?_⟩
  rw [← HJ.out]
  exact HS3.out
end Go.Proofs.YtbjianmjdadehaaGreatDoor
