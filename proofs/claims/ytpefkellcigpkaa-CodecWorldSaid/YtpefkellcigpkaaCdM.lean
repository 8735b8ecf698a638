/- Plain mathematics of codec's bytes: numbers, lengths, texts, lists and pairs of them as bytes, and their reading (no program). -/
namespace Go.Proofs.Ytpefkellcigpkaa.Cd
set_option maxRecDepth 100000

/-- What a reader has: the bytes that are left; whether it is broken. -/
structure R where
  rest : List UInt8
  br : Bool

def R.fail (_ : R) : R := ⟨[], true⟩
def R.take (n : Nat) (r : R) : List UInt8 × R := if r.rest.length < n then ([], r.fail) else (r.rest.take n, ⟨r.rest.drop n, r.br⟩)
def R.byte (r : R) : UInt8 × R := match r.rest with
  | [] => (0, r.fail)
  | c :: t => (c, ⟨t, r.br⟩)

theorem byte_cons (c : UInt8) (t : List UInt8) (b : Bool) : R.byte ⟨c :: t, b⟩ = (c, ⟨t, b⟩) := rfl

def twist (n : Int) : Nat := if 0 ≤ n then (2 * n).toNat else (-2 * n - 1).toNat
def untwist (u : Nat) : Int := if u % 2 = 0 then ((u / 2 : Nat) : Int) else -((u / 2 : Nat) : Int) - 1
def okN (n : Int) : Prop := -9223372036854775808 ≤ n ∧ n ≤ 9223372036854775807
theorem untwist_twist (n : Int) : untwist (twist n) = n := by unfold untwist twist; split <;> split <;> omega
theorem twist_untwist (u : Nat) : twist (untwist u) = u := by unfold untwist twist; split <;> split <;> omega
theorem twist_lt {n : Int} (h : okN n) : twist n < 18446744073709551616 := by unfold okN at h; unfold twist; split <;> omega
theorem okN_untwist {u : Nat} (h : u < 18446744073709551616) : okN (untwist u) := by unfold okN untwist; split <;> omega

def be : Nat → Nat → List UInt8
  | 0, _ => []
  | k + 1, u => be k (u / 256) ++ [UInt8.ofNat (u % 256)]
def hi (l : List UInt8) : Nat := l.foldl (fun a c => a * 256 + c.toNat) 0

theorem ofNat_small {n : Nat} (h : n < 256) : (UInt8.ofNat n).toNat = n := by rw [UInt8.toNat_ofNat']; exact Nat.mod_eq_of_lt h

theorem be_length : ∀ (k u : Nat), (be k u).length = k
  | 0, _ => rfl
  | k + 1, u => by simp [be, be_length k]
theorem hi_snoc (l : List UInt8) (c : UInt8) : hi (l ++ [c]) = hi l * 256 + c.toNat := by simp [hi]
theorem hi_be : ∀ (k u : Nat), hi (be k u) = u % 256 ^ k
  | 0, u => by simp [be, hi, Nat.mod_one]
  | k + 1, u => by
    rw [be, hi_snoc, hi_be k]
    have h1 : (UInt8.ofNat (u % 256)).toNat = u % 256 := by simp
    rw [h1, Nat.pow_succ, Nat.mul_comm (256 ^ k) 256, Nat.mod_mul]
    omega
theorem list_snoc_ind {α : Type} {p : List α → Prop} (h0 : p []) (h1 : ∀ l a, p l → p (l ++ [a])) (l : List α) : p l := by
  have : ∀ m : List α, p m.reverse := by
    intro m
    induction m with
    | nil => exact h0
    | cons a m ih => rw [List.reverse_cons]; exact h1 _ _ ih
  have h := this l.reverse
  rwa [List.reverse_reverse] at h
theorem hi_lt (l : List UInt8) : hi l < 256 ^ l.length := by
  induction l using list_snoc_ind with
  | h0 => simp [hi]
  | h1 l a ih =>
    rw [hi_snoc, List.length_append, List.length_singleton, Nat.pow_succ]
    have := a.toNat_lt
    omega
theorem be_hi (l : List UInt8) : be l.length (hi l) = l := by
  induction l using list_snoc_ind with
  | h0 => rfl
  | h1 l a ih =>
    rw [List.length_append, List.length_singleton, be, hi_snoc]
    have := a.toNat_lt
    rw [show (hi l * 256 + a.toNat) / 256 = hi l by omega, show (hi l * 256 + a.toNat) % 256 = a.toNat by omega, ih]
    simp
theorem be_more (j m : Nat) (u : Nat) : be (j + 1) (u / 256 ^ m) = be j (u / 256 ^ (m + 1)) ++ [UInt8.ofNat (u / 256 ^ m % 256)] := by
  rw [be, Nat.pow_succ, Nat.div_div_eq_div_mul]

/-- How many bytes a number fills. -/
def sizeB (u : Nat) : Nat :=
  if u = 0 then 0 else if u < 256 then 1 else if u < 65536 then 2 else if u < 16777216 then 3 else if u < 4294967296 then 4
  else if u < 1099511627776 then 5 else if u < 281474976710656 then 6 else if u < 72057594037927936 then 7 else 8
theorem sizeB_le (u : Nat) : sizeB u ≤ 8 := by unfold sizeB; repeat' split <;> try omega
theorem sizeB_pos {u : Nat} (h : 248 ≤ u) : 1 ≤ sizeB u := by unfold sizeB; repeat' split <;> try omega
theorem lt_sizeB {u : Nat} (h : u < 18446744073709551616) : u < 256 ^ sizeB u := by
  unfold sizeB
  repeat' split
  all_goals simp
  all_goals omega

/-- A number's bytes. -/
def encN (n : Int) : List UInt8 :=
  if twist n < 248 then [UInt8.ofNat (twist n)] else UInt8.ofNat (247 + sizeB (twist n)) :: be (sizeB (twist n)) (twist n)
def decN (r : R) : Int × R :=
  let q := r.byte
  if q.1.toNat < 248 then (untwist q.1.toNat, q.2) else
    let t := q.2.take (q.1.toNat - 247)
    (untwist (hi t.1), if hi t.1 < 248 ∨ sizeB (hi t.1) ≠ q.1.toNat - 247 then t.2.fail else t.2)

theorem take_append (l t : List UInt8) (b : Bool) {k : Nat} (hk : l.length = k) : R.take k ⟨l ++ t, b⟩ = (l, ⟨t, b⟩) := by
  subst hk
  unfold R.take
  rw [if_neg (by simp only [List.length_append]; omega)]
  simp
theorem take_bwd {n : Nat} {r : R} (h : (r.take n).2.br = false) : r.br = false ∧ (r.take n).1.length = n ∧ r.rest = (r.take n).1 ++ (r.take n).2.rest := by
  unfold R.take at h ⊢
  split at h
  · simp [R.fail] at h
  · next hc => rw [if_neg hc]; exact ⟨h, by rw [List.length_take]; omega, by simp⟩
theorem take_len (n : Nat) (r : R) : (r.take n).1.length ≤ n := by
  unfold R.take; split
  · simp
  · simp only [List.length_take]; omega
theorem byte_bwd {r : R} (h : r.byte.2.br = false) : r.br = false ∧ r.rest = r.byte.1 :: r.byte.2.rest := by
  unfold R.byte at h ⊢
  cases hr : r.rest with
  | nil => rw [hr] at h; simp [R.fail] at h
  | cons c t => rw [hr] at h; exact ⟨h, rfl⟩

theorem decN_fwd (n : Int) (hn : okN n) (t : List UInt8) (b : Bool) : decN ⟨encN n ++ t, b⟩ = (n, ⟨t, b⟩) := by
  have hlt := twist_lt hn
  unfold encN decN
  by_cases h : twist n < 248
  · rw [if_pos h]
    rw [List.cons_append, List.nil_append, byte_cons]
    dsimp only
    have e : (UInt8.ofNat (twist n)).toNat = twist n := ofNat_small (by omega)
    rw [e, if_pos h, untwist_twist]
  · rw [if_neg h]
    rw [List.cons_append, byte_cons]
    dsimp only
    have h8 := sizeB_le (twist n)
    have h1 := sizeB_pos (u := twist n) (by omega)
    have e : (UInt8.ofNat (247 + sizeB (twist n))).toNat = 247 + sizeB (twist n) := ofNat_small (by omega)
    rw [e, if_neg (by omega), show 247 + sizeB (twist n) - 247 = sizeB (twist n) by omega, take_append _ _ _ (be_length _ _)]
    simp only [hi_be, Nat.mod_eq_of_lt (lt_sizeB hlt)]
    rw [if_neg (by omega), untwist_twist]

theorem decN_bwd (r : R) (h : (decN r).2.br = false) : r.br = false ∧ okN (decN r).1 ∧ r.rest = encN (decN r).1 ++ (decN r).2.rest := by
  unfold decN at h ⊢
  by_cases hc : r.byte.1.toNat < 248
  · simp only [if_pos hc] at h ⊢
    obtain ⟨h1, h2⟩ := byte_bwd h
    have := r.byte.1.toNat_lt
    refine ⟨h1, okN_untwist (by omega), ?_⟩
    rw [encN, twist_untwist, if_pos hc]
    simpa using h2
  · simp only [if_neg hc] at h ⊢
    split at h
    · simp [R.fail] at h
    · next hg =>
      rw [if_neg hg]
      obtain ⟨h1, h2, h3⟩ := take_bwd h
      obtain ⟨h4, h5⟩ := byte_bwd h1
      have hb := r.byte.1.toNat_lt
      have hl := hi_lt ((r.byte.2.take (r.byte.1.toNat - 247)).1)
      have h6 : (256 : Nat) ^ (r.byte.2.take (r.byte.1.toNat - 247)).1.length ≤ 256 ^ 8 := Nat.pow_le_pow_right (by omega) (by omega)
      have h7 := be_hi (r.byte.2.take (r.byte.1.toNat - 247)).1
      generalize (r.byte.2.take (r.byte.1.toNat - 247)) = q at *
      have hg1 : ¬ hi q.1 < 248 := fun h => hg (.inl h)
      have hg2 : sizeB (hi q.1) = r.byte.1.toNat - 247 := Classical.not_not.1 (fun h => hg (.inr h))
      refine ⟨h4, okN_untwist (by omega), ?_⟩
      rw [encN, twist_untwist, if_neg hg1, hg2, h5, h3]
      rw [h2] at h7
      rw [h7, show 247 + (r.byte.1.toNat - 247) = r.byte.1.toNat by omega]
      simp

/-- A length's bytes. -/
def encL (n : Nat) : List UInt8 := if n < 128 then [UInt8.ofNat n] else be 4 (n + 2147483648)
def decL (r : R) : Nat × R :=
  let q := r.byte
  if q.1.toNat < 128 then (q.1.toNat, q.2) else
    let t := q.2.take 3
    ((q.1.toNat - 128) * 16777216 + hi t.1, if (q.1.toNat - 128) * 16777216 + hi t.1 < 128 then t.2.fail else t.2)

theorem hi_cons (c : UInt8) : ∀ l : List UInt8, hi (c :: l) = c.toNat * 256 ^ l.length + hi l := by
  intro l
  induction l using list_snoc_ind with
  | h0 => simp [hi]
  | h1 l a ih =>
    rw [← List.cons_append, hi_snoc, ih, hi_snoc, List.length_append, List.length_singleton, Nat.pow_succ]
    rw [Nat.add_mul, Nat.mul_assoc]; omega

theorem len_arith1 {n a m K : Nat} (hm : m < 16777216) (hK : K = 2147483648) (hh : a * 16777216 + m = n + K) : ¬ a < 128 := by omega
theorem len_arith2 {n b m : Nat} (hh : (b + 128) * 16777216 + m = n + 2147483648) : b * 16777216 + m = n := by
  have e : (128 : Nat) * 16777216 = 2147483648 := by rfl
  rw [Nat.add_mul, e, Nat.add_right_comm] at hh
  exact Nat.add_right_cancel hh
theorem len_arith3 {n a m : Nat} (ha : ¬ a < 128) (hh : a * 16777216 + m = n + 2147483648) : (a - 128) * 16777216 + m = n := by
  obtain ⟨b, rfl⟩ : ∃ b, a = b + 128 := ⟨a - 128, by omega⟩
  rw [Nat.add_sub_cancel]
  exact len_arith2 hh
theorem hi3 {l : List UInt8} (hl : l.length = 3) : hi l < 16777216 := by have := hi_lt l; rw [hl] at this; exact this
theorem decL_fwd (n : Nat) (hn : n < 2147483648) (t : List UInt8) (b : Bool) : decL ⟨encL n ++ t, b⟩ = (n, ⟨t, b⟩) := by
  unfold encL decL
  by_cases h : n < 128
  · rw [if_pos h]
    rw [List.cons_append, List.nil_append, byte_cons]
    dsimp only
    have e : (UInt8.ofNat n).toNat = n := ofNat_small (by omega)
    rw [e, if_pos h]
  · rw [if_neg h]
    have hm : n + 2147483648 < 256 ^ 4 := by simp; omega
    have e : ∃ c l, be 4 (n + 2147483648) = c :: l ∧ l.length = 3 := by
      have := be_length 4 (n + 2147483648)
      cases hb : be 4 (n + 2147483648) with
      | nil => rw [hb] at this; simp at this
      | cons c l => rw [hb] at this; exact ⟨c, l, rfl, by simpa using this⟩
    obtain ⟨c, l, hcl, hl⟩ := e
    have hh : c.toNat * 16777216 + hi l = n + 2147483648 := by
      generalize n + 2147483648 = m at *
      have hh := hi_be 4 m
      rw [hcl, hi_cons, hl, Nat.mod_eq_of_lt hm] at hh
      exact hh
    have hc := len_arith1 (hi3 hl) rfl hh
    have e2 := len_arith3 hc hh
    rw [hcl, List.cons_append, byte_cons]
    dsimp only
    rw [if_neg hc, take_append _ _ _ hl]
    dsimp only
    rw [e2, if_neg h]

theorem decL_lt (r : R) : (decL r).1 < 2147483648 := by
  unfold decL
  have := r.byte.1.toNat_lt
  by_cases hc : r.byte.1.toNat < 128
  · simp only [if_pos hc]; omega
  · simp only [if_neg hc]
    have h1 := hi_lt (r.byte.2.take 3).1
    have h3 : (256 : Nat) ^ (r.byte.2.take 3).1.length ≤ 256 ^ 3 := Nat.pow_le_pow_right (by omega) (take_len _ _)
    omega

theorem decL_bwd (r : R) (h : (decL r).2.br = false) : r.br = false ∧ r.rest = encL (decL r).1 ++ (decL r).2.rest := by
  unfold decL at h ⊢
  by_cases hc : r.byte.1.toNat < 128
  · simp only [if_pos hc] at h ⊢
    obtain ⟨h1, h2⟩ := byte_bwd h
    refine ⟨h1, ?_⟩
    rw [encL, if_pos hc]
    simpa using h2
  · simp only [if_neg hc] at h ⊢
    split at h
    · simp [R.fail] at h
    · next hg =>
      rw [if_neg hg]
      obtain ⟨h1, h2, h3⟩ := take_bwd h
      obtain ⟨h4, h5⟩ := byte_bwd h1
      have hb := r.byte.1.toNat_lt
      have h7 := be_hi (r.byte.1 :: (r.byte.2.take 3).1)
      have h6 := hi_cons r.byte.1 (r.byte.2.take 3).1
      generalize (r.byte.2.take 3) = q at *
      rw [List.length_cons, h2, h6, h2] at h7
      refine ⟨h4, ?_⟩
      rw [encL, if_neg hg, show (r.byte.1.toNat - 128) * 16777216 + hi q.1 + 2147483648 = r.byte.1.toNat * 256 ^ 3 + hi q.1 by omega, h7, h5, h3]
      rfl

/-- Things that are written as bytes, and read. -/
structure Cod (α : Type) where
  enc : α → List UInt8
  dec : R → α × R
  ok : α → Prop
  fwd : ∀ x, ok x → ∀ t, dec ⟨enc x ++ t, false⟩ = (x, ⟨t, false⟩)
  bwd : ∀ r, (dec r).2.br = false → r.br = false ∧ ok (dec r).1 ∧ r.rest = enc (dec r).1 ++ (dec r).2.rest

def cN : Cod Int := ⟨encN, decN, okN, fun x h t => decN_fwd x h t false, decN_bwd⟩

def pair {α β : Type} (A : Cod α) (B : Cod β) : Cod (α × β) where
  enc x := A.enc x.1 ++ B.enc x.2
  dec r := (((A.dec r).1, (B.dec (A.dec r).2).1), (B.dec (A.dec r).2).2)
  ok x := A.ok x.1 ∧ B.ok x.2
  fwd x h t := by rw [List.append_assoc, A.fwd x.1 h.1]; simp only; rw [B.fwd x.2 h.2]
  bwd r h := by
    obtain ⟨h1, h2, h3⟩ := B.bwd _ h
    obtain ⟨h4, h5, h6⟩ := A.bwd _ h1
    exact ⟨h4, ⟨h5, h2⟩, by rw [List.append_assoc, ← h3]; exact h6⟩

/-- A text: its bytes. -/
def cT : Cod ByteArray where
  enc s := encL s.size ++ s.data.toList
  dec r := (⟨((decL r).2.take (decL r).1).1.toArray⟩, ((decL r).2.take (decL r).1).2)
  ok s := s.size < 2147483648
  fwd s h t := by rw [List.append_assoc, decL_fwd _ h]; simp only; rw [take_append _ _ _ (by simp)]
  bwd r h := by
    obtain ⟨h1, h2, h3⟩ := take_bwd h
    obtain ⟨h4, h5⟩ := decL_bwd r h1
    have e : (⟨((decL r).2.take (decL r).1).1.toArray⟩ : ByteArray).size = (decL r).1 := by
      simp only [ByteArray.size, List.size_toArray]; exact h2
    exact ⟨h4, by simp only; rw [e]; exact decL_lt r, by simp only; rw [e, List.append_assoc, ← h3]; exact h5⟩

def cB : Cod Bool where
  enc x := [if x then 1 else 0]
  dec r := (r.byte.1 == 1, if 1 < r.byte.1.toNat then r.byte.2.fail else r.byte.2)
  ok _ := True
  fwd x _ t := by cases x <;> rfl
  bwd r h := by
    split at h
    · simp [R.fail] at h
    · next hg =>
      rw [if_neg hg]
      obtain ⟨h4, h5⟩ := byte_bwd h
      refine ⟨h4, trivial, ?_⟩
      rw [h5]
      have e : ∀ c : UInt8, ¬ 1 < c.toNat → (if (c == 1) = true then (1 : UInt8) else 0) = c := by
        intro c hc
        have h2 : c.toNat = 0 ∨ c.toNat = 1 := by omega
        rcases h2 with h2 | h2
        · have : c = 0 := UInt8.toNat_inj.1 h2
          subst this; rfl
        · have : c = 1 := UInt8.toNat_inj.1 h2
          subst this; rfl
      rw [e _ hg]; rfl

def loopD {α : Type} (dec : R → α × R) : Nat → R → List α × R
  | 0, r => ([], r)
  | n + 1, r => if r.br = true then ([], r) else ((dec r).1 :: (loopD dec n (dec r).2).1, (loopD dec n (dec r).2).2)

theorem loopD_fwd {α : Type} (A : Cod α) : ∀ (l : List α), (∀ x ∈ l, A.ok x) → ∀ t, loopD A.dec l.length ⟨l.flatMap A.enc ++ t, false⟩ = (l, ⟨t, false⟩)
  | [], _, _ => rfl
  | x :: l, h, t => by
    rw [List.flatMap_cons, List.append_assoc, List.length_cons, loopD, if_neg (by simp), A.fwd x (h x (by simp))]
    simp only
    rw [loopD_fwd A l (fun y hy => h y (by simp [hy])) t]
theorem loopD_bwd {α : Type} (A : Cod α) : ∀ (n : Nat) (r : R), (loopD A.dec n r).2.br = false →
    r.br = false ∧ (∀ x ∈ (loopD A.dec n r).1, A.ok x) ∧ (loopD A.dec n r).1.length = n ∧ r.rest = (loopD A.dec n r).1.flatMap A.enc ++ (loopD A.dec n r).2.rest
  | 0, r, h => ⟨h, by simp [loopD], rfl, by simp [loopD]⟩
  | n + 1, r, h => by
    rw [loopD] at h ⊢
    by_cases hb : r.br = true
    · rw [if_pos hb] at h; simp only at h; rw [hb] at h; exact absurd h (by simp)
    · rw [if_neg hb] at h ⊢
      obtain ⟨h1, h2, h3, h4⟩ := loopD_bwd A n _ h
      obtain ⟨h5, h6, h7⟩ := A.bwd r h1
      refine ⟨h5, ?_, by simp [h3], ?_⟩
      · intro x hx
        simp only [List.mem_cons] at hx
        rcases hx with rfl | hx
        · exact h6
        · exact h2 x hx
      · simp only [List.flatMap_cons, List.append_assoc]
        rw [← h4]; exact h7

/-- A broken reader stays broken. -/
theorem loopD_br {α : Type} (dec : R → α × R) (n : Nat) (r : R) (h : r.br = true) : loopD dec n r = ([], r) := by
  cases n with
  | zero => rfl
  | succ n => rw [loopD, if_pos h]

/-- A broken reader answers all the same; what it answers is the decoders' word. -/
def cList {α : Type} (A : Cod α) : Cod (List α) where
  enc l := encL l.length ++ l.flatMap A.enc
  dec r := loopD A.dec (decL r).1 (decL r).2
  ok l := l.length < 2147483648 ∧ ∀ x ∈ l, A.ok x
  fwd l h t := by rw [List.append_assoc, decL_fwd _ h.1]; simp only; rw [loopD_fwd A l h.2]
  bwd r h := by
    obtain ⟨h1, h2, h3, h4⟩ := loopD_bwd A _ _ h
    obtain ⟨h5, h6⟩ := decL_bwd r h1
    exact ⟨h5, ⟨by rw [h3]; exact decL_lt r, h2⟩, by rw [h3, List.append_assoc, ← h4]; exact h6⟩

end Go.Proofs.Ytpefkellcigpkaa.Cd
