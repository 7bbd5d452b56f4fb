/- Numbers written one behind the other, a blank behind each: the text tells the numbers. -/
import Derived.Test.YtjgbjahcnnjfpaaDoorProg
import Derived.Lib.ItoaNum
import Derived.Lib.ItoaLen
namespace Go.Proofs.YtjgbjahcnnjfpaaDoor

/-- What a list of numbers is written as. -/
def traceB (xs : List Int) : List UInt8 := xs.flatMap fun v => Lib.itoa v ++ [32]
theorem traceB_nil : traceB [] = [] := rfl
theorem traceB_cons (v : Int) (xs : List Int) : traceB (v :: xs) = Lib.itoa v ++ 32 :: traceB xs := by simp [traceB]
theorem traceB_snoc (xs : List Int) (v : Int) : traceB (xs ++ [v]) = traceB xs ++ Lib.itoa v ++ [32] := by simp [traceB]

def undec (l : List UInt8) : Nat := l.foldl (fun a d => a * 10 + (d.toNat - 48)) 0
theorem undec_snoc (l : List UInt8) (d : UInt8) : undec (l ++ [d]) = undec l * 10 + (d.toNat - 48) := by simp [undec]
theorem dig_toNat (k : Nat) (h : k < 10) : (UInt8.ofNat (48 + k)).toNat = 48 + k := by
  rw [UInt8.toNat_ofNat']; omega
theorem undec_dec (u : Nat) : undec (Lib.decDigits u) = u := by
  induction u using Nat.strongRecOn with
  | ind u ih =>
    rw [Lib.decDigits]
    by_cases h : u < 10
    · rw [dif_pos h]
      simp only [undec, List.foldl_cons, List.foldl_nil]
      rw [dig_toNat u h]; omega
    · rw [dif_neg h, undec_snoc, ih (u / 10) (by omega), dig_toNat _ (by omega)]; omega
theorem dec_byte (u : Nat) : ∀ d ∈ Lib.decDigits u, 48 ≤ d.toNat := by
  induction u using Nat.strongRecOn with
  | ind u ih =>
    rw [Lib.decDigits]
    by_cases h : u < 10
    · rw [dif_pos h]
      intro d hd
      obtain rfl := List.mem_singleton.1 hd
      rw [dig_toNat u h]; omega
    · rw [dif_neg h]
      intro d hd
      rcases List.mem_append.1 hd with hd | hd
      · exact ih _ (by omega) d hd
      · obtain rfl := List.mem_singleton.1 hd
        rw [dig_toNat _ (by omega)]; omega
theorem itoa_byte (n : Int) : (32 : UInt8) ∉ Lib.itoa n := by
  intro h
  unfold Lib.itoa at h
  by_cases hn : n < 0
  · rw [if_pos hn] at h
    rcases List.mem_cons.1 h with h | h
    · exact absurd h (by decide)
    · exact absurd (dec_byte _ _ h) (by decide)
  · rw [if_neg hn] at h
    exact absurd (dec_byte _ _ h) (by decide)
theorem itoa_inj {a b : Int} (h : Lib.itoa a = Lib.itoa b) : a = b := by
  unfold Lib.itoa at h
  by_cases ha : a < 0 <;> by_cases hb : b < 0
  · rw [if_pos ha, if_pos hb] at h
    have := congrArg undec (List.cons.inj h).2
    rw [undec_dec, undec_dec] at this; omega
  · rw [if_pos ha, if_neg hb] at h
    have : (45 : UInt8) ∈ Lib.decDigits b.toNat := by rw [← h]; simp
    exact absurd (dec_byte _ _ this) (by decide)
  · rw [if_neg ha, if_pos hb] at h
    have : (45 : UInt8) ∈ Lib.decDigits a.toNat := by rw [h]; simp
    exact absurd (dec_byte _ _ this) (by decide)
  · rw [if_neg ha, if_neg hb] at h
    have := congrArg undec h
    rw [undec_dec, undec_dec] at this; omega
theorem split_at {x : UInt8} : ∀ {A B X Y : List UInt8}, x ∉ A → x ∉ B → A ++ x :: X = B ++ x :: Y → A = B ∧ X = Y
  | [], [], _, _, _, _, h => ⟨rfl, (List.cons.inj h).2⟩
  | [], b :: B, _, _, _, hb, h => by
    have := (List.cons.inj h).1
    subst this
    exact absurd (List.mem_cons_self) hb
  | a :: A, [], _, _, ha, _, h => by
    have := (List.cons.inj h).1
    subst this
    exact absurd (List.mem_cons_self) ha
  | a :: A, b :: B, X, Y, ha, hb, h => by
    obtain ⟨h1, h2⟩ := List.cons.inj h
    obtain ⟨h3, h4⟩ := split_at (fun m => ha (List.mem_cons_of_mem _ m)) (fun m => hb (List.mem_cons_of_mem _ m)) h2
    exact ⟨by rw [h1, h3], h4⟩
/-- The text tells the numbers. -/
theorem traceB_inj : ∀ {xs ys : List Int}, traceB xs = traceB ys → xs = ys
  | [], [], _ => rfl
  | [], y :: ys, h => by rw [traceB_nil, traceB_cons] at h; simp at h
  | x :: xs, [], h => by rw [traceB_nil, traceB_cons] at h; simp at h
  | x :: xs, y :: ys, h => by
    rw [traceB_cons, traceB_cons] at h
    obtain ⟨h1, h2⟩ := split_at (itoa_byte x) (itoa_byte y) h
    rw [itoa_inj h1, traceB_inj h2]
theorem traceB_len : ∀ (xs : List Int), (∀ x ∈ xs, -9223372036854775808 ≤ x ∧ x ≤ 9223372036854775807) → (traceB xs).length ≤ 22 * xs.length
  | [], _ => by simp [traceB_nil]
  | x :: xs, h => by
    have h1 := Lib.itoa_length_le x (h x List.mem_cons_self).1 (h x List.mem_cons_self).2
    have h2 := traceB_len xs fun y hy => h y (List.mem_cons_of_mem _ hy)
    rw [traceB_cons]; simp only [List.length_append, List.length_cons]; omega
/-- The text as a string. -/
def traceS (xs : List Int) : ByteArray := ⟨(traceB xs).toArray⟩
theorem traceS_inj {xs ys : List Int} (h : traceS xs = traceS ys) : xs = ys := by
  apply traceB_inj
  have := congrArg (fun b : ByteArray => b.data.toList) h
  simpa [traceS] using this
end Go.Proofs.YtjgbjahcnnjfpaaDoor
