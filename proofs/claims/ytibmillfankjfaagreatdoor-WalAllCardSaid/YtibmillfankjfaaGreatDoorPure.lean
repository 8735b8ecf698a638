/- Plainly, of disks and logs: what a crash at any write leaves, and what opening makes of it. -/
import Derived.Test.YtibmillfankjfaaGreatDoorLog
namespace Go.Proofs.YtibmillfankjfaaGreatDoor
open Go.RowKit
set_option maxRecDepth 100000

/-! ### numbers in a head -/
theorem bset_get (s : ByteArray) (k : Nat) (b : UInt8) (j : Nat) (hk : k < s.size) : (bset s k b).data.getD j 0 = if j = k then b else s.data.getD j 0 := by
  have h2 : k < s.data.size := hk
  simp only [bset, Array.getD_eq_getD_getElem?, Array.getElem?_setIfInBounds]
  by_cases h : k = j
  · subst h
    rw [if_pos rfl, if_pos h2, if_pos rfl]
    rfl
  · rw [if_neg h, if_neg (fun e => h e.symm)]

theorem put16_get (s : ByteArray) (k n j : Nat) (hk : k + 1 < s.size) : (put16 s k n).data.getD j 0 = if j = k + 1 then UInt8.ofNat (n / 256) else if j = k then UInt8.ofNat n else s.data.getD j 0 := by
  rw [put16, bset_get _ _ _ _ (by rw [bset_size]; exact hk), bset_get _ _ _ _ (by omega)]

theorem num16_put_same (s : ByteArray) (k n : Nat) (hk : k + 1 < s.size) (hn : n < 65536) : num16 (put16 s k n) k = n := by
  unfold num16
  rw [put16_get s k n k hk, put16_get s k n (k + 1) hk]
  simp only [if_true, show ¬ k = k + 1 by omega, if_false]
  rw [UInt8.toNat_ofNat', UInt8.toNat_ofNat']
  omega

theorem num16_put_other (s : ByteArray) (k n j : Nat) (hk : k + 1 < s.size) (hj : j + 1 < k ∨ k + 1 < j) : num16 (put16 s k n) j = num16 s j := by
  unfold num16
  rw [put16_get s k n j hk, put16_get s k n (j + 1) hk]
  rw [if_neg (by omega), if_neg (by omega), if_neg (by omega), if_neg (by omega)]

theorem hfill_count (g : Grp) (hn : g.length < 65536) : ∀ k, k ≤ 250 → num16 (hfill g k) 4 = g.length
  | 0, _ => by
    rw [hfill]; exact num16_put_same _ _ _ (by rw [zeroSec_size]; omega) hn
  | k + 1, hk => by
    rw [hfill, num16_put_other _ _ _ _ (by rw [hfill_size]; omega) (by omega), hfill_count g hn k (by omega)]

theorem hfill_key {g : Grp} (hg : GOk g) : ∀ k j, k ≤ 250 → j < k → num16 (hfill g k) (6 + 2 * j) = gkey g j
  | 0, _, _, h => by omega
  | k + 1, j, hk, h => by
    rw [hfill]
    by_cases e : j = k
    · subst e; exact num16_put_same _ _ _ (by rw [hfill_size]; omega) (gkey_lt hg _)
    · rw [num16_put_other _ _ _ _ (by rw [hfill_size]; omega) (by omega), hfill_key hg k j (by omega) (by omega)]

theorem headOf_count (g : Grp) (hn : g.length ≤ 200) : num16 (headOf g) 4 = g.length := by
  rw [headOf, num16_put_other _ _ _ _ (by rw [put16_size, hfill_size]; omega) (by omega), num16_put_other _ _ _ _ (by rw [hfill_size]; omega) (by omega), hfill_count g (by omega) _ (by omega)]

theorem headOf_key {g : Grp} (hg : GOk g) (hn : g.length ≤ 200) (j : Nat) (hj : j < g.length) : num16 (headOf g) (6 + 2 * j) = gkey g j := by
  rw [headOf, num16_put_other _ _ _ _ (by rw [put16_size, hfill_size]; omega) (by omega), num16_put_other _ _ _ _ (by rw [hfill_size]; omega) (by omega), hfill_key hg _ _ (by omega) hj]

theorem zero_num (k : Nat) : num16 zeroSec k = 0 := by
  have : ∀ j, zeroSec.data.getD j 0 = 0 := by
    intro j
    simp only [zeroSec, zeroBytes, Array.getD_eq_getD_getElem?, List.getElem?_toArray, List.getElem?_replicate]
    split <;> rfl
  simp [num16, this]

theorem headOf_ne {g : Grp} (hn : g.length ≤ 200) (h0 : 0 < g.length) : headOf g ≠ zeroSec := by
  intro e
  have := headOf_count g hn
  rw [e, zero_num] at this
  omega

/-! ### the group that a log holds -/
theorem gins_last (x : Nat × ByteArray) : ∀ g : Grp, (∀ y ∈ g, y.1 < x.1) → gins x g = g ++ [x]
  | [], _ => rfl
  | y :: r, h => by
    have h1 := h y (List.mem_cons_self ..)
    rw [gins, if_neg (by omega), gins_last x r (fun z hz => h z (List.mem_cons_of_mem _ hz))]
    rfl

theorem gput_last (g : Grp) (i : Nat) (s : ByteArray) (h : ∀ y ∈ g, y.1 < i) : gput g i s = g ++ [(i, s)] := by
  rw [gput, List.filter_eq_self.2 (fun x hx => by have := h x hx; simp; omega)]
  exact gins_last (i, s) g h

theorem gkey_at (g : Grp) (k : Nat) (h : k < g.length) : gkey g k = (g[k]).1 := by
  simp [gkey, gkeys, List.getD_eq_getElem?_getD, List.getElem?_eq_getElem h]

theorem gsec_at {g : Grp} (hg : GOk g) (k : Nat) (h : k < g.length) : gsec g (gkey g k) = (g[k]).2 := by
  have hm : (g[k].1, g[k].2) ∈ g := List.getElem_mem h
  rw [gsec, gkey_at g k h, (glook_mem hg).2 hm]
  rfl

/-- The sectors of D that tell of the log are those of the group g. -/
structure Tells (L : List ByteArray) (g : Grp) : Prop where
  head : L.getD 0 default = headOf g
  secs : ∀ k, k < g.length → L.getD (1 + k) default = gsec g (gkey g k)

theorem lgo_tells {D : Dk} {g : Grp} (hg : GOk g) (hn : g.length ≤ 40) (hin : GIn D g) (ht : Tells D.new g) : ∀ k, k ≤ g.length → lgo D (headOf g) k = some (g.take k)
  | 0, _ => by simp [lgo]
  | k + 1, hk => by
    rw [lgo, lgo_tells hg hn hin ht k (by omega)]
    simp only
    have hkk : k < g.length := by omega
    rw [headOf_key hg (by omega) k hkk]
    have h1 := gin_key hin k hkk
    rw [if_pos (by simp only [homeB, Bool.and_eq_true, decide_eq_true_eq]; omega)]
    rw [ht.secs k hkk, gsec_at hg k hkk, gput_last, List.take_succ_eq_append_getElem hkk, gkey_at g k hkk]
    intro y hy
    obtain ⟨j, hj, rfl⟩ := List.getElem_of_mem hy
    simp only [List.length_take] at hj
    rw [List.getElem_take, gkey_at g k hkk]
    exact List.pairwise_iff_getElem.1 hg.rising j k (by omega) hkk (by omega)

theorem logged_tells {D : Dk} {g : Grp} (hg : GOk g) (hn : g.length ≤ 40) (hin : GIn D g) (ht : Tells D.new g) : loggedD D = some g := by
  have h0 : sec0 D = headOf g := ht.head
  unfold loggedD
  rw [h0, headOf_count g (by omega), if_neg (by omega), lgo_tells hg hn hin ht _ (Nat.le_refl _), List.take_length]
  simp

/-- logged reads the first 41 sectors. -/
theorem logged_same {D E : Dk} (hl : E.las.length = D.las.length) (h : ∀ i, i < 48 → E.new.getD i default = D.new.getD i default) : loggedD E = loggedD D := by
  have h0 : sec0 E = sec0 D := h 0 (by omega)
  have hgo : ∀ k, k ≤ 40 → lgo E (sec0 D) k = lgo D (sec0 D) k := by
    intro k
    induction k with
    | zero => intro _; rfl
    | succ k ih =>
      intro hk
      rw [lgo, lgo, ih (by omega), hl, h (1 + k) (by omega)]
  unfold loggedD
  rw [h0]
  split
  · rfl
  · rw [hgo _ (by omega)]

end Go.Proofs.YtibmillfankjfaaGreatDoor
