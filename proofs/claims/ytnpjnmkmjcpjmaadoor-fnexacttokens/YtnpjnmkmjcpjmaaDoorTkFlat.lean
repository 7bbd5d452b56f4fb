/- The cells of a list of tokens, as both lexers lay them. -/
import Derived.Test.YtnpjnmkmjcpjmaaDoorLex2
import Derived.OwnWalk
import Derived.Maps.AppendAt
import Derived.MapKept
set_option linter.unusedVariables false
namespace Go.Proofs.YtnpjnmkmjcpjmaaDoor
open Go.RowKit

def flat (ts : List Tok) : List Value := ts.flatMap fun t => [.int .i64 t.kind, .string t.text, .int .i64 t.place]
theorem flat_len (ts : List Tok) : (flat ts).length = ts.length * 3 := by
  induction ts with
  | nil => rfl
  | cons t ts ih => rw [flat, List.flatMap_cons, List.length_append, ← flat, ih]; simp; omega
theorem flat_snoc (ts : List Tok) (t : Tok) : flat (ts ++ [t]) = flat ts ++ [.int .i64 t.kind, .string t.text, .int .i64 t.place] := by simp [flat]

theorem cell_three_new (w : World) (a b c : Value) (t : TypeId) : ∀ j u, [a, b, c][j]? = some u → (w.alloc (.cells #[a, b, c] t)).cell? ((⟨w.heap.size, 0, none⟩ : Addr).add j) = some u := by
  intro j u hj
  match j, hj with
  | 0, hj => simp at hj; subst hj; simp [Addr.add]
  | 1, hj => simp at hj; subst hj; simp [Addr.add]
  | 2, hj => simp at hj; subst hj; simp [Addr.add]
  | j + 3, hj => simp at hj
theorem one_cells (a : Int) (b : ByteArray) (c : Int) : ∀ u ∈ [Value.int .i64 a, .string b, .int .i64 c], u.oneCell' = true := by
  intro u hu
  simp at hu
  rcases hu with rfl | rfl | rfl <;> rfl
theorem own_later {w w' : World} {B : Nat} {e : TypeId} {size n : Nat} {v : Value} {xs : List Value} (h : w.ownsRow B e size v n xs) (hb : Below w.heap.size w w') : w'.ownsRow B e size v n xs := by
  obtain ⟨h1, h2⟩ := h
  refine ⟨h1, ?_⟩
  rcases h2 with h2 | ⟨g, cap, cur, hv, hg, hh, r⟩
  · exact .inl h2
  · exact .inr ⟨g, cap, cur, hv, hg, by rw [hb.block g (Array.getElem?_eq_some_iff.1 hh).1]; exact hh, r⟩
theorem own_form {w : World} {B : Nat} {e : TypeId} {size n : Nat} {v : Value} {xs : List Value} (h : w.ownsRow B e size v (n + 1) xs) : ∃ g cap, v = .slice (some ⟨g, 0, none⟩) (n + 1) cap := by
  rcases h.2 with ⟨_, h⟩ | ⟨g, cap, _, hv, _⟩
  · omega
  · exact ⟨g, cap, hv⟩
theorem own_last {w : World} {B g cap : Nat} {toks : List Tok} {t : Tok} (h : w.ownsRow B 37 3 (.slice (some ⟨g, 0, none⟩) (toks.length + 1) cap) (toks.length + 1) (flat (toks ++ [t]))) :
    w.cell? ⟨g, toks.length * 3, none⟩ = some (.int .i64 t.kind) ∧ w.cell? ⟨g, toks.length * 3 + 1, none⟩ = some (.string t.text) ∧ w.cell? ⟨g, toks.length * 3 + 2, none⟩ = some (.int .i64 t.place) := by
  have hl := flat_len toks
  refine ⟨?_, ?_, ?_⟩
  · rw [h.cellAt _ (by omega), flat_snoc, List.getElem?_append_right (by omega)]; simp [hl]
  · rw [h.cellAt _ (by omega), flat_snoc, List.getElem?_append_right (by omega)]; simp [hl]
  · rw [h.cellAt _ (by omega), flat_snoc, List.getElem?_append_right (by omega)]; simp [hl]
theorem last_cells {w : World} {B g cap n : Nat} {toks : List Tok} {t : Tok} (h : w.ownsRow B 37 3 (.slice (some ⟨g, 0, none⟩) toks.length cap) toks.length (flat toks)) (hn : toks.length = n + 1) (hl : toks.getLast? = some t) :
    w.cell? ⟨g, n * 3, none⟩ = some (.int .i64 t.kind) ∧ w.cell? ⟨g, n * 3 + 1, none⟩ = some (.string t.text) ∧ w.cell? ⟨g, n * 3 + 2, none⟩ = some (.int .i64 t.place) := by
  obtain ⟨ys, rfl⟩ := List.getLast?_eq_some_iff.1 hl
  obtain rfl : ys.length = n := by simpa using hn
  rw [hn] at h
  exact own_last h
theorem line_all {l : List UInt8} {k : Nat} (h : ∀ b ∈ l.take k, b.toNat ≠ 10) (hk : k ≤ l.length) (hn : ∀ hlt : k < l.length, l[k].toNat = 10) : lineLen l = k := by
  induction l generalizing k with
  | nil => simpa [lineLen] using Eq.symm (by simpa using hk : k = 0)
  | cons a l ih =>
    cases k with
    | zero =>
      have h0 : a.toNat = 10 := hn (by simp)
      have h1 : a = 10 := UInt8.toNat_inj.1 h0
      simp [lineLen, h1]
    | succ k =>
      have h0 : ¬ a = 10 := fun e => h a (by simp) (by rw [e]; rfl)
      have := ih (k := k) (fun b hb => h b (by simp [hb])) (by simpa using hk) (fun hlt => hn (Nat.succ_lt_succ hlt))
      unfold lineLen at this ⊢
      simp [h0, this]
theorem drop_take_snoc (s : ByteArray) (p j : Nat) (h : p + j < s.size) : (s.data.toList.drop p).take (j + 1) = (s.data.toList.drop p).take j ++ [s[p + j]] := by
  have hl : j < (s.data.toList.drop p).length := by rw [List.length_drop]; have : s.data.toList.length = s.size := rfl; omega
  rw [List.take_succ_eq_append_getElem hl, List.getElem_drop]; rfl
theorem drop_len (s : ByteArray) (p : Nat) : (s.data.toList.drop p).length = s.size - p := by rw [List.length_drop]; rfl
theorem drop_at (s : ByteArray) (p j : Nat) (h : p + j < s.size) (h2 : j < (s.data.toList.drop p).length) : (s.data.toList.drop p)[j] = s[p + j] := by rw [List.getElem_drop]; rfl
theorem cut_bs (s : ByteArray) (p j : Nat) : s.extract p (p + j) = bs ((s.data.toList.drop p).take j) := bytes_eq (by rw [Lib.extract_data, bs_data, Nat.add_sub_cancel_left])
end Go.Proofs.YtnpjnmkmjcpjmaaDoor
