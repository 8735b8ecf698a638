/- The reference's Sha: its numbers are the table's; laws of its lists. -/
import Derived.Test.YtebijkpojlngpaaDoorShaR3
import Derived.Test.YtebijkpojlngpaaDoorShaR4
import Derived.Test.YtebijkpojlngpaaDoorShaG
namespace Go.Proofs.YtebijkpojlngpaaDoor.Sha
open Go.RowKit Go.Proofs.YtebijkpojlngpaaDoor
set_option maxRecDepth 100000

theorem Seen.srcS {P : Program} {w : World} {size n : Nat} {v : Value} {xs : List Value} {tx e : TypeId} (h : Seen w size v n xs) (ht : P.underlying tx = some (.slice e)) (h1 : ∀ u ∈ xs, u.oneCell' = true) : Src P size tx v n xs w := by
  obtain ⟨hl, a, cap, rfl, hc, hm, hcell⟩ := h
  rcases hcell with rfl | ⟨g, off, rfl, _, hcl⟩
  · have : xs = [] := List.eq_nil_of_length_eq_zero (by simpa using hl)
    subst this
    cases a with
    | none => exact Src.ofNil w ht cap
    | some a => exact Src.ofSlice w ht a 0 cap [] (by simp) (fun j u hu => by simp at hu) (by simp)
  · exact Src.ofSlice w ht _ n cap xs hl (fun j u hu => by rw [add_off]; exact hcl j u hu) h1

theorem K_get (P : List Nat) (hP : P = primesB 310) (i : Nat) (hi : i < P.length) : rootB (UInt64.ofNat P[i]) true = shaK.getD i 0 := by
  subst hP
  have h := congrArg (fun l => l[i]?) roots_is
  simp only [List.getElem?_map, List.getElem?_eq_getElem hi, Option.map_some] at h
  rw [List.getD_eq_getElem?_getD, ← h]; rfl

theorem H_get (P : List Nat) (hP : P = primesB 310) (i : Nat) (hi : i < P.length) (h8 : i < 8) : rootB (UInt64.ofNat P[i]) false = (stL iv).getD i 0 := by
  subst hP
  have h := congrArg (fun l => l[i]?) iv_is
  simp only [List.getElem?_map, List.getElem?_take, h8, if_true, List.getElem?_eq_getElem hi, Option.map_some] at h
  rw [List.getD_eq_getElem?_getD, ← h]; rfl

theorem P_n64 (P : List Nat) (hP : P = primesB 310) (i : Nat) (hi : i < P.length) : ((P[i] : Nat) : Int) = n64 (UInt64.ofNat P[i]) := by
  have h := List.all_eq_true.1 primes_fit P[i] (by rw [← hP]; exact List.getElem_mem hi)
  simp only [decide_eq_true_eq] at h
  unfold n64
  rw [UInt64.toNat_ofNat', Nat.mod_eq_of_lt (by omega)]

theorem take_next (L : List UInt32) (i : Nat) (h : i < L.length) : L.take i ++ [L.getD i 0] = L.take (i + 1) := by
  rw [List.take_succ_eq_append_getElem h]
  simp [List.getD_eq_getElem?_getD, List.getElem?_eq_getElem h]

structure NumR (w4 : World) (BK BH : Nat) (i : Value) (wr : World) : Prop where
  ex : ∃ k : Nat, k ≤ 64 ∧ i = .int .i64 (k : Int) ∧ Keep (fun x => x = BK ∨ x = BH) w4 wr ∧ WAt wr 40 BK (part 64 (shaK.take k)) ∧ WAt wr 33 BH (part 8 ((stL iv).take k))

theorem NumR.step {w4 wr : World} {BK BH k : Nat} {a b : UInt32} (hk : k < 8) (hne : BK ≠ BH) (hK : Keep (fun x => x = BK ∨ x = BH) w4 wr) (h1 : WAt wr 40 BK (part 64 (shaK.take k))) (h2 : WAt wr 33 BH (part 8 ((stL iv).take k)))
    (ha : a = shaK.getD k 0) (hb : b = (stL iv).getD k 0) : NumR w4 BK BH (.int .i64 ((k : Int) + 1)) ((wr.setCell ⟨BK, k, none⟩ (.int .u32 (n32 a))).setCell ⟨BH, k, none⟩ (.int .u32 (n32 b))) := by
  subst ha hb
  have l1 : (shaK.take k).length = k := by rw [List.length_take]; exact Nat.min_eq_left (by show k ≤ 64; omega)
  have l2 : ((stL iv).take k).length = k := by rw [List.length_take]; exact Nat.min_eq_left (by show k ≤ 8; omega)
  refine ⟨k + 1, by omega, by rw [Int.natCast_add]; rfl, (hK.setCell _ _ (.inl (.inl rfl))).setCell _ _ (.inl (.inr rfl)), ?_, ?_⟩
  · have e := part_set 64 (shaK.take k) (shaK.getD k 0) (by omega)
    rw [l1, take_next _ _ (by show k < 64; omega)] at e
    have h := h1.set k (shaK.getD k 0)
    rw [e] at h
    exact h.keep (F := fun x => x = BH) ((Keep.refl _ _).setCell _ _ (.inl rfl)) hne
  · have e := part_set 8 ((stL iv).take k) ((stL iv).getD k 0) (by omega)
    rw [l2, take_next _ _ (by show k < 8; omega)] at e
    have h := (h2.keep (F := fun x => x = BK) ((Keep.refl _ _).setCell ⟨BK, k, none⟩ (.int .u32 (n32 (shaK.getD k 0))) (.inl rfl)) (Ne.symm hne)).set k ((stL iv).getD k 0)
    rw [e] at h
    exact h

theorem NumR.step' {w4 wr : World} {BK BH k : Nat} {a : UInt32} (hk : k < 64) (hk8 : 8 ≤ k) (hne : BK ≠ BH) (hK : Keep (fun x => x = BK ∨ x = BH) w4 wr) (h1 : WAt wr 40 BK (part 64 (shaK.take k))) (h2 : WAt wr 33 BH (part 8 ((stL iv).take k)))
    (ha : a = shaK.getD k 0) : NumR w4 BK BH (.int .i64 ((k : Int) + 1)) (wr.setCell ⟨BK, k, none⟩ (.int .u32 (n32 a))) := by
  subst ha
  have l1 : (shaK.take k).length = k := by rw [List.length_take]; exact Nat.min_eq_left (by show k ≤ 64; omega)
  refine ⟨k + 1, by omega, by rw [Int.natCast_add]; rfl, hK.setCell _ _ (.inl (.inl rfl)), ?_, ?_⟩
  · have e := part_set 64 (shaK.take k) (shaK.getD k 0) (by omega)
    rw [l1, take_next _ _ (by show k < 64; omega)] at e
    have h := h1.set k (shaK.getD k 0)
    rw [e] at h
    exact h
  · have e2 : (stL iv).take (k + 1) = (stL iv).take k := by
      rw [List.take_of_length_le (by show 8 ≤ k + 1; omega), List.take_of_length_le (by show 8 ≤ k; omega)]
    rw [e2]
    exact h2.keep (F := fun x => x = BK) ((Keep.refl _ _).setCell _ _ (.inl rfl)) (Ne.symm hne)

/-- The bytes, the bit, so many zeros. -/
def padZ (b : List UInt8) (j : Nat) : List UInt8 := b ++ 128 :: List.replicate j 0
def padE (b : List UInt8) (j : Nat) : List UInt8 := b ++ 128 :: (List.replicate (zerosN b.length) 0 ++ (len8 (b.length * 8)).take j)
theorem padE_full (b : List UInt8) : padE b 8 = padded b := rfl
theorem padE_zero (b : List UInt8) : padE b 0 = padZ b (zerosN b.length) := by simp [padE, padZ]
theorem padZ_len (b : List UInt8) (j : Nat) : (padZ b j).length = b.length + 1 + j := by simp [padZ]; omega
theorem padE_len (b : List UInt8) (j : Nat) (h : j ≤ 8) : (padE b j).length = b.length + 1 + zerosN b.length + j := by simp [padE, len8_length]; omega
theorem padZ_next (b : List UInt8) (j : Nat) : padZ b j ++ [0] = padZ b (j + 1) := by simp [padZ, List.replicate_succ']
theorem padE_next (b : List UInt8) (j : Nat) (h : j < 8) : padE b j ++ [UInt8.ofNat (b.length * 8 / 2 ^ (8 * (7 - j)))] = padE b (j + 1) := by
  have hg := len8_get (b.length * 8) (7 - j) (by omega)
  rw [show 7 - (7 - j) = j by omega] at hg
  have hl : j < (len8 (b.length * 8)).length := by rw [len8_length]; omega
  rw [List.getElem?_eq_getElem hl] at hg
  unfold padE
  rw [List.take_succ_eq_append_getElem hl, Option.some.inj hg]
  simp
theorem padded_len (b : List UInt8) : (padded b).length % 64 = 0 := by
  rw [← padE_full, padE_len b 8 (by omega)]; unfold zerosN; omega

/-- The first t bytes of an array of 32. -/
def upTo (D : List UInt8) (t : Nat) : List UInt8 := D.take t ++ List.replicate (32 - t) 0
theorem upTo_length (D : List UInt8) (t : Nat) (hD : D.length = 32) (h : t ≤ 32) : (upTo D t).length = 32 := by simp [upTo, hD]; omega
theorem upTo_set (D : List UInt8) (t : Nat) (hD : D.length = 32) (h : t < 32) (c : UInt8) (hc : D[t]? = some c) : (upTo D t).set t c = upTo D (t + 1) := by
  have hl : (D.take t).length = t := by simp [hD]; omega
  have e := List.set_append_right (s := D.take t) (t := List.replicate (32 - t) (0 : UInt8)) t c (by omega)
  unfold upTo
  rw [e, hl, Nat.sub_self, show 32 - t = (32 - (t + 1)) + 1 by omega, List.replicate_succ, List.set_cons_zero, List.take_succ_eq_append_getElem (by omega)]
  rw [List.getElem?_eq_getElem (by omega)] at hc
  rw [Option.some.inj hc]; simp
theorem upTo_full (D : List UInt8) (hD : D.length = 32) : upTo D 32 = D := by simp [upTo, ← hD]

theorem digest_get (s : St) (i j : Nat) (hi : i < 8) (hj : j < 4) : (digest s)[4 * i + j]? = some (((stL s).getD i 0) >>> UInt32.ofNat (24 - 8 * j)).toUInt8 := by
  have h1 : i = 0 ∨ i = 1 ∨ i = 2 ∨ i = 3 ∨ i = 4 ∨ i = 5 ∨ i = 6 ∨ i = 7 := by omega
  have h2 : j = 0 ∨ j = 1 ∨ j = 2 ∨ j = 3 := by omega
  have e0 : ∀ x : UInt32, x >>> UInt32.ofNat 0 = x := fun x => by
    apply UInt32.toNat_inj.1; simp [UInt32.toNat_shiftRight]
  rcases h1 with rfl | rfl | rfl | rfl | rfl | rfl | rfl | rfl <;> rcases h2 with rfl | rfl | rfl | rfl <;> simp [digest, stL, word4, e0]

theorem by_e (x : UInt32) (e : Nat) (h : e < 32) : n32 x / 2 ^ e % (256 : Int) = (((x >>> UInt32.ofNat e).toUInt8.toNat : Nat) : Int) := by
  rw [n32_shr x e h]; unfold n32; rw [UInt32.toNat_toUInt8]; omega

/-- block, its arguments and results written out. -/
theorem block_l {w : World} {v : Value} {s : St} {p : List UInt8} (h : Seen w 1 v p.length (bcells p)) (hp : p.length = 64) :
    Calls Tryd.prog 19 #[.agg #[.int .u32 (n32 s.a), .int .u32 (n32 s.b), .int .u32 (n32 s.c), .int .u32 (n32 s.d), .int .u32 (n32 s.e), .int .u32 (n32 s.f), .int .u32 (n32 s.g), .int .u32 (n32 s.h)], v, .agg (ucells shaK).toArray] w fun e w' => ∃ r : St, r = mixB s p ∧ e = .returned (.agg #[.int .u32 (n32 r.a), .int .u32 (n32 r.b), .int .u32 (n32 r.c), .int .u32 (n32 r.d), .int .u32 (n32 r.e), .int .u32 (n32 r.f), .int .u32 (n32 r.g), .int .u32 (n32 r.h)]) ∧ Keep (fun _ => False) w w' :=
  (block_any h hp).mono fun _ _ ⟨h1, h2⟩ => ⟨_, rfl, h1, h2⟩

end Go.Proofs.YtebijkpojlngpaaDoor.Sha
