/- codec: how many bytes the law allows a cut world; a cut world's bytes are no more. -/
import Derived.Test.YtpefkellcigpkaaCdByt
import Derived.Deep.QuietTactic
import Derived.BigQuiet
namespace Go.Proofs.Ytpefkellcigpkaa.Cd
open Go.RowKit Go.Deep Go.Proofs.Ytpefkellcigpkaa
set_option maxRecDepth 100000

def tC (d : MChar) : Nat := 64 + d.1.size + d.2.1.size + 64 * d.2.2.2.2.2.2.2.2.2.length
def tT (d : MThing) : Nat := 64 + d.2.2.2.2.size
def tG (s : ByteArray) : Nat := 64 + s.size
def sumF {M : Type} (f : M → Nat) (l : List M) : Nat := (l.map f).sum
def tH (d : MHouse) : Nat := 64 + d.2.1.size + sumF tG d.2.2.1
def tL (d : MLot) : Nat := 64 + d.2.2.1.size + d.2.2.2.2.2.1.size
def txtN (x : MWorld) : Nat := 64 + sumF tC x.2.2.2.1 + sumF tT x.2.2.2.2.1 + sumF tH x.2.2.2.2.2.2.1 + sumF tL x.2.2.2.2.2.2.2.1 + 64 * (x.2.2.2.2.2.1.length + x.2.2.2.2.2.2.2.2.length)

section
variable {M : Type} {f : M → Nat} {l : List M}
theorem sumF_step {k : Nat} {x : M} (h : l[k]? = some x) : sumF f (l.take (k + 1)) = sumF f (l.take k) + f x := by
  unfold sumF
  rw [List.take_add_one, h]; simp
theorem sumF_le {c : Nat} : ∀ l : List M, (∀ x ∈ l, f x ≤ c) → sumF f l ≤ c * l.length
  | [], _ => by simp [sumF]
  | x :: l, h => by
    have h1 := sumF_le l (fun y hy => h y (List.mem_cons_of_mem _ hy))
    have h2 := h x List.mem_cons_self
    have e : sumF f (x :: l) = f x + sumF f l := rfl
    rw [e, List.length_cons, Nat.mul_add]; omega
theorem sumF_take {c m k : Nat} (hm : l.length ≤ m) (h : ∀ x ∈ l, f x ≤ c) : sumF f (l.take k) ≤ c * m := by
  refine Nat.le_trans (sumF_le _ (fun x hx => h x (List.mem_of_mem_take hx))) (Nat.mul_le_mul_left c ?_)
  rw [List.length_take]; omega
theorem sumF_all {k : Nat} (h : k = l.length) : sumF f (l.take k) = sumF f l := by rw [h, List.take_length]
end

/-- A loop that sums up: i things are counted. -/
structure TxR {M : Type} (f : M → Nat) (l : List M) (b : Nat) (w : World) (n i : Value) (wr : World) : Prop where
  ex : ∃ k : Nat, k ≤ l.length ∧ i = .int .i64 (k : Int) ∧ n = .int .i64 ((b + sumF f (l.take k) : Nat) : Int) ∧ Keep (fun _ => False) w wr
theorem TxR.start {M : Type} {f : M → Nat} {l : List M} {b : Nat} {w w' : World} (k : Keep (fun _ => False) w w') : TxR f l b w (.int .i64 (b : Int)) (.int .i64 0) w' := ⟨0, by omega, rfl, by simp [sumF], k⟩
theorem TxR.step {M : Type} {f : M → Nat} {l : List M} {b k N : Nat} {x : M} {w wr : World} (hx : l[k]? = some x) (hN : N = b + sumF f (l.take k)) (hk : Keep (fun _ => False) w wr) {z y : Int} (hz : z = (k : Int) + 1) (hy : y = (N : Int) + (f x : Nat)) : TxR f l b w (.int .i64 y) (.int .i64 z) wr := by
  have hl := (List.getElem?_eq_some_iff.1 hx).1
  refine ⟨k + 1, by omega, by rw [hz]; rfl, ?_, hk⟩
  rw [hy, hN, sumF_step hx]
  congr 1
  omega

theorem lenL1 {n : Nat} (h : n < 128) : (encL n).length = 1 := by unfold encL; rw [if_pos h]; rfl
theorem lenT1 {s : ByteArray} (h : s.size < 128) : (cT.enc s).length = 1 + s.size := by
  show (encL s.size ++ s.data.toList).length = _
  rw [List.length_append, lenL1 h]
  have : s.data.toList.length = s.size := by rw [Array.length_toList]; rfl
  omega
theorem lenFlatF {M : Type} (g : M → List UInt8) (f : M → Nat) : ∀ l : List M, (∀ x ∈ l, (g x).length ≤ f x) → (l.flatMap g).length ≤ sumF f l
  | [], _ => by simp [sumF]
  | x :: l, h => by
    have h1 := lenFlatF g f l (fun y hy => h y (List.mem_cons_of_mem _ hy))
    have h2 := h x List.mem_cons_self
    have e : sumF f (x :: l) = f x + sumF f l := rfl
    rw [e, List.flatMap_cons, List.length_append]; omega
theorem lenListF {α : Type} (A : Cod α) (f : α → Nat) (l : List α) (hl : l.length < 128) (h : ∀ x ∈ l, (A.enc x).length ≤ f x) : ((cList A).enc l).length ≤ 1 + sumF f l := by
  show (encL l.length ++ l.flatMap A.enc).length ≤ _
  rw [List.length_append, lenL1 hl]
  have := lenFlatF A.enc f l h
  omega
theorem sumF_const {M : Type} (c : Nat) : ∀ l : List M, sumF (fun _ => c) l = c * l.length
  | [] => rfl
  | x :: l => by
    have e : sumF (fun _ : M => c) (x :: l) = c + sumF (fun _ => c) l := rfl
    rw [e, sumF_const c l, List.length_cons, Nat.mul_add]; omega

theorem SmallW.txt {x : MWorld} (h : SmallW x) : (87 :: cWorld.enc x).length ≤ txtN x := by
  obtain ⟨now, next, minted, chars, things, mobs, houses, lots, tills⟩ := x
  have e1 := lenListF cChar tC chars (by have := h.chars.1; simp only at this; omega) (fun x hx => by
    obtain ⟨a, b, c⟩ := (h.chars.2 x hx).2
    have := lenP cT _ x (Nat.le_of_eq (lenT1 (by omega))) (lenP cT _ x.2 (Nat.le_of_eq (lenT1 (by omega))) (lenP cB _ x.2.2 (lenB _) (lenP cN _ x.2.2.2 (lenN _) (lenP cN _ x.2.2.2.2 (lenN _) (lenP cN _ x.2.2.2.2.2 (lenN _) (lenP cN _ x.2.2.2.2.2.2 (lenN _) (lenP cN _ x.2.2.2.2.2.2.2 (lenN _) (lenP cN (cList cN) x.2.2.2.2.2.2.2.2 (lenN _) (lenListF cN (fun _ => 9) _ (by omega) (fun y _ => lenN y))))))))))
    rw [sumF_const] at this
    refine Nat.le_trans this ?_
    unfold tC
    omega)
  have e2 := lenListF cThing tT things (by have := h.things.1; simp only at this; omega) (fun x hx => by
    have a := (h.things.2 x hx).2
    unfold sThing at a
    have := lenP cN _ x (lenN _) (lenP cN _ x.2 (lenN _) (lenP cN _ x.2.2 (lenN _) (lenP cN cT x.2.2.2 (lenN _) (Nat.le_of_eq (lenT1 (by omega))))))
    refine Nat.le_trans this ?_
    unfold tT
    omega)
  have e3 := lenListF cMob (fun _ => 64) mobs (by have := h.mobs.1; simp only at this; omega) (fun x hx => by
    have := lenP cN _ x (lenN _) (lenP cN _ x.2 (lenN _) (lenP cN cN x.2.2 (lenN _) (lenN _)))
    exact Nat.le_trans this (by decide))
  have e4 := lenListF cHouse tH houses (by have := h.houses.1; simp only at this; omega) (fun x hx => by
    obtain ⟨a, b, c⟩ := (h.houses.2 x hx).2
    have := lenP cN _ x (lenN _) (lenP cT _ x.2 (Nat.le_of_eq (lenT1 (by omega))) (lenP (cList cT) cN x.2.2 (lenListF cT tG _ (by omega) (fun y hy => by rw [lenT1 (by have := c y hy; omega)]; unfold tG; omega)) (lenN _)))
    refine Nat.le_trans this ?_
    unfold tH
    omega)
  have e5 := lenListF cLot tL lots (by have := h.lots.1; simp only at this; omega) (fun x hx => by
    obtain ⟨a, b⟩ := (h.lots.2 x hx).2
    have := lenP cN _ x (lenN _) (lenP cN _ x.2 (lenN _) (lenP cT _ x.2.2 (Nat.le_of_eq (lenT1 (by omega))) (lenP cN _ x.2.2.2 (lenN _) (lenP cN _ x.2.2.2.2 (lenN _) (lenP cT cN x.2.2.2.2.2 (Nat.le_of_eq (lenT1 (by omega))) (lenN _))))))
    refine Nat.le_trans this ?_
    unfold tL
    omega)
  have e6 := lenListF cTill (fun _ => 64) tills (by have := h.tills.1; simp only at this; omega) (fun x hx => by
    have := lenP cN cN x (lenN _) (lenN _)
    exact Nat.le_trans this (by decide))
  rw [sumF_const] at e3 e6
  have := lenP cN _ (now, next, minted, chars, things, mobs, houses, lots, tills) (lenN _) (lenP cN _ (next, minted, chars, things, mobs, houses, lots, tills) (lenN _) (lenP cN _ (minted, chars, things, mobs, houses, lots, tills) (lenN _) (lenP (cList cChar) _ (chars, things, mobs, houses, lots, tills) e1 (lenP (cList cThing) _ (things, mobs, houses, lots, tills) e2 (lenP (cList cMob) _ (mobs, houses, lots, tills) e3 (lenP (cList cHouse) _ (houses, lots, tills) e4 (lenP (cList cLot) (cList cTill) (lots, tills) e5 e6)))))))
  rw [List.length_cons]
  unfold txtN
  simp only
  refine Nat.le_trans (Nat.add_le_add_right this 1) ?_
  omega

theorem kdrewM (w : World) (n : Nat) : Keep (fun _ => False) w (w.drewN n) := ⟨rfl, rfl, rfl, Nat.le_refl _, fun _ _ _ => rfl⟩

set_option maxHeartbeats 8000000 in
theorem texts_any {w : World} {p : Value} {x : MWorld} {Pb : Nat → Prop} (hx : PAt eWorld Pb w p x) (hs : SmallW x) :
    Calls Try.prog 12 #[p] w fun e w' => e = .returned (.int .i64 ((txtN x : Nat) : Int)) ∧ Keep (fun _ => False) w w' := by
  obtain ⟨now, next, minted, chars, things, mobs, houses, lots, tills⟩ := x
  obtain ⟨g, o, cs, rfl, hg, _, ⟨v1, v2, v3, v4, v5, v6, l1, l2, l3, l4, l5, l6, rfl⟩, hr⟩ := hx
  simp only at l1 l2 l3 l4 l5 l6
  obtain ⟨a1, d1, rfl, _⟩ := l1.slice
  obtain ⟨a2, d2, rfl, _⟩ := l2.slice
  obtain ⟨a3, d3, rfl, _⟩ := l3.slice
  obtain ⟨a4, d4, rfl, _⟩ := l4.slice
  obtain ⟨a5, d5, rfl, _⟩ := l5.slice
  obtain ⟨a6, d6, rfl, _⟩ := l6.slice
  have HS := Lib.hid hs
  obtain ⟨n1, hn1⟩ : ∃ n, n = chars.length := ⟨_, rfl⟩
  obtain ⟨n2, hn2⟩ : ∃ n, n = things.length := ⟨_, rfl⟩
  obtain ⟨n3, hn3⟩ : ∃ n, n = mobs.length := ⟨_, rfl⟩
  obtain ⟨n4, hn4⟩ : ∃ n, n = houses.length := ⟨_, rfl⟩
  obtain ⟨n5, hn5⟩ : ∃ n, n = lots.length := ⟨_, rfl⟩
  obtain ⟨n6, hn6⟩ : ∃ n, n = tills.length := ⟨_, rfl⟩
  rw [← hn1, ← hn2, ← hn3, ← hn4, ← hn5, ← hn6] at hr
  rw [← hn1] at l1
  rw [← hn2] at l2
  rw [← hn4] at l4
  rw [← hn5] at l5
  have HP : Hid (∀ w', Keep (fun _ => False) w w' → w'.cell? ⟨g, o + 3, none⟩ = some (.slice a1 n1 d1) ∧ w'.cell? ⟨g, o + 4, none⟩ = some (.slice a2 n2 d2) ∧ w'.cell? ⟨g, o + 5, none⟩ = some (.slice a3 n3 d3) ∧ w'.cell? ⟨g, o + 6, none⟩ = some (.slice a4 n4 d4) ∧ w'.cell? ⟨g, o + 7, none⟩ = some (.slice a5 n5 d5) ∧ w'.cell? ⟨g, o + 8, none⟩ = some (.slice a6 n6 d6)) := Lib.hid (fun w' k => by
    have h := rangeAt_keep hr k hg (fun h => h)
    exact ⟨h 3 _ rfl, h 4 _ rfl, h 5 _ rfl, h 6 _ rfl, h 7 _ rfl, h 8 _ rfl⟩)
  have L1 := Lib.hid l1
  have L2 := Lib.hid l2
  have L4 := Lib.hid l4
  have L5 := Lib.hid l5
  have HN := Lib.hid (show n1 = chars.length ∧ n2 = things.length ∧ n3 = mobs.length ∧ n4 = houses.length ∧ n5 = lots.length ∧ n6 = tills.length from ⟨hn1, hn2, hn3, hn4, hn5, hn6⟩)
  have hb1 : n1 ≤ 6 := by rw [hn1]; exact hs.chars.1
  have hb2 : n2 ≤ 12 := by rw [hn2]; exact hs.things.1
  have hb3 : n3 ≤ 8 := by rw [hn3]; exact hs.mobs.1
  have hb4 : n4 ≤ 5 := by rw [hn4]; exact hs.houses.1
  have hb5 : n5 ≤ 5 := by rw [hn5]; exact hs.lots.1
  have hb6 : n6 ≤ 5 := by rw [hn6]; exact hs.tills.1
  have HB := Lib.hid (And.intro hb1 (And.intro hb2 (And.intro hb3 (And.intro hb4 (And.intro hb5 hb6)))))
  have HF1 : Hid (∀ d ∈ chars, tC d ≤ 676) := Lib.hid (fun d hd => by obtain ⟨a, b, c⟩ := (hs.chars.2 d hd).2; unfold tC; omega)
  have HF2 : Hid (∀ d ∈ things, tT d ≤ 94) := Lib.hid (fun d hd => by have a := (hs.things.2 d hd).2; unfold sThing at a; unfold tT; omega)
  have HF4 : Hid (∀ d ∈ houses, tH d ≤ 600) := Lib.hid (fun d hd => by
    obtain ⟨a, b, c⟩ := (hs.houses.2 d hd).2
    have := sumF_le (f := tG) (c := 94) d.2.2.1 (fun s hs => by have := c s hs; unfold tG; omega)
    unfold tH; omega)
  have HF5 : Hid (∀ d ∈ lots, tL d ≤ 124) := Lib.hid (fun d hd => by obtain ⟨a, b⟩ := (hs.lots.2 d hd).2; unfold tL; omega)
  clear hs hr l1 l2 l3 l4 l5 l6 hn1 hn2 hn3 hn4 hn5 hn6 hb1 hb2 hb3 hb4 hb5 hb6
  have p3 := (HP.out _ (Keep.refl _ w)).1
  go_enter Try.func12, Try.ntmps12
  go_wp2_with fail
  go_loopw [3, 4] (fun n i wr => TxR tC chars 64 w n i wr) (fun _ i _ => n1 - (intOf i).toNat)
  case atStart => exact TxR.start (Keep.refl _ w)
  case round =>
    obtain ⟨k, hk, rfl, rfl, hkk⟩ := hrel.ex
    clear hrel p3
    have HK := Lib.hid hkk
    have p3 := (HP.out _ hkk).1
    obtain ⟨N, hN⟩ : ∃ NN, NN = 64 + sumF tC (chars.take k) := ⟨_, rfl⟩
    rw [← hN]
    have hNb : (N : Int) ≤ 10000 := by have := sumF_take (k := k) (m := 6) (by rw [← HN.out.1]; exact HB.out.1) HF1.out; omega
    have HNN := Lib.hid hN
    rw [← HN.out.1] at hk
    clear hkk hN
    by_cases hlt : k < n1
    · have hlt1 : (k : Int) < (n1 : Int) := by omega
      have hki : (k : Int) < 10 := by have := HB.out.1; omega
      obtain ⟨x, hx⟩ : ∃ x, chars[k]? = some x := ⟨_, List.getElem?_eq_getElem (by rw [← HN.out.1]; exact hlt)⟩
      obtain ⟨g1, o1, cs1, rfl, _, _, hH1, hr1⟩ := (L1.out.keep HK.out (fun _ _ _ h => h)).get k x hx
      have HXX := Lib.hid hx
      have hsx := (HS.out.chars.2 x (List.mem_of_getElem? hx)).2
      obtain ⟨x0, x1, x2, x3, x4, x5, x6, x7, x8, x9⟩ := x
      obtain ⟨dv, hd, hcs⟩ := hH1
      obtain ⟨da, dd, rfl, _⟩ := hd.slice
      obtain ⟨m, hm⟩ : ∃ m, m = x9.length := ⟨_, rfl⟩
      simp only at hcs
      rw [← hm] at hcs
      subst hcs
      obtain ⟨s1, s2, s3⟩ := hsx
      simp only at s1 s2 s3
      have c0 : wr.cell? ⟨g1, o1 + k * 10, none⟩ = some (.string x0) := by have := hr1 0 _ rfl; simpa [eChar] using this
      have c1 : wr.cell? ⟨g1, o1 + k * 10 + 1, none⟩ = some (.string x1) := by have := hr1 1 _ rfl; simpa [eChar] using this
      have c9 : wr.cell? ⟨g1, o1 + k * 10 + 9, none⟩ = some (.slice da m dd) := by have := hr1 9 _ rfl; simpa [eChar] using this
      have i1 : (x0.size : Int) ≤ 30 := by omega
      have i2 : (x1.size : Int) ≤ 70 := by omega
      have i3 : (m : Int) ≤ 8 := by omega
      have HM := Lib.hid hm
      clear hd hr1 hx s1 s2 s3 hm
      go_wp2_with fail
      go_quiet (fail)
      go_wp2_with fail
      go_roundw
      case rel =>
        (repeat apply Exists.intro)
        exact TxR.step HXX.out HNN.out (HK.out.trans (kdrewM wr nq) (fun _ h => h.elim)) (by go_num) (by unfold tC; simp only [← HM.out]; omega)
      case measure => simp [intOf]; omega
    · obtain rfl : k = n1 := by omega
      have HE1 : Hid (N = 64 + sumF tC chars) := Lib.hid (by rw [HNN.out, sumF_all HN.out.1])
      have HK1 := Lib.hid HK.out
      clear HNN L1 HF1 hlt hk
      have p4 := (HP.out _ HK1.out).2.1
      go_wp2_with fail
      go_loopw [3, 5] (fun n i wr => TxR tT things N w n i wr) (fun _ i _ => n2 - (intOf i).toNat)
      case atStart => exact TxR.start HK1.out
      case round =>
        obtain ⟨k, hk, rfl, rfl, hkk⟩ := hrel.ex
        clear hrel p4
        have HK := Lib.hid hkk
        have p4 := (HP.out _ hkk).2.1
        obtain ⟨N2, hN⟩ : ∃ NN, NN = N + sumF tT (things.take k) := ⟨_, rfl⟩
        rw [← hN]
        have hNb2 : (N2 : Int) ≤ 12000 := by have := sumF_take (k := k) (m := 12) (by rw [← HN.out.2.1]; exact HB.out.2.1) HF2.out; omega
        have HNN2 := Lib.hid hN
        rw [← HN.out.2.1] at hk
        clear hkk hN
        by_cases hlt : k < n2
        · have hlt1 : (k : Int) < (n2 : Int) := by omega
          have hki : (k : Int) < 20 := by have := HB.out.2.1; omega
          obtain ⟨x, hx⟩ : ∃ x, things[k]? = some x := ⟨_, List.getElem?_eq_getElem (by rw [← HN.out.2.1]; exact hlt)⟩
          obtain ⟨g1, o1, cs1, rfl, _, _, hH1, hr1⟩ := (L2.out.keep HK.out (fun _ _ _ h => h)).get k x hx
          have HXX := Lib.hid hx
          have hsx : x.2.2.2.2.size ≤ 30 := (HS.out.things.2 x (List.mem_of_getElem? hx)).2
          obtain ⟨x0, x1, x2, x3, x4⟩ := x
          have hcs : cs1 = [.int .i64 x0, .int .i64 x1, .int .i64 x2, .int .i64 x3, .string x4] := hH1
          subst hcs
          simp only at hsx
          have c4 : wr.cell? ⟨g1, o1 + k * 5 + 4, none⟩ = some (.string x4) := by have := hr1 4 _ rfl; simpa [eThing] using this
          have i1 : (x4.size : Int) ≤ 30 := by omega
          clear hH1 hr1 hx hsx
          go_wp2_with fail
          go_roundw
          case rel =>
            (repeat apply Exists.intro)
            exact TxR.step HXX.out HNN2.out HK.out (by go_num) (by unfold tT; simp only; omega)
          case measure => simp [intOf]; omega
        · obtain rfl : k = n2 := by omega
          have HE2 : Hid (N2 = N + sumF tT things) := Lib.hid (by rw [HNN2.out, sumF_all HN.out.2.1])
          have HK2 := Lib.hid HK.out
          clear HNN2 L2 HF2 hlt hk HK1 HK hNb
          have p6 := (HP.out _ HK2.out).2.2.2.1
          go_wp2_with fail
          go_loopw [3, 6] (fun n i wr => TxR tH houses N2 w n i wr) (fun _ i _ => n4 - (intOf i).toNat)
          case atStart => exact TxR.start HK2.out
          case round =>
            obtain ⟨k, hk, rfl, rfl, hkk⟩ := hrel.ex
            clear hrel p6
            have HK := Lib.hid hkk
            have p6 := (HP.out _ hkk).2.2.2.1
            obtain ⟨N3, hN⟩ : ∃ NN, NN = N2 + sumF tH (houses.take k) := ⟨_, rfl⟩
            rw [← hN]
            have hNb3 : (N3 : Int) ≤ 16000 := by have := sumF_take (k := k) (m := 5) (by rw [← HN.out.2.2.2.1]; exact HB.out.2.2.2.1) HF4.out; omega
            have HNN3 := Lib.hid hN
            rw [← HN.out.2.2.2.1] at hk
            clear hkk hN
            by_cases hlt : k < n4
            · have hlt1 : (k : Int) < (n4 : Int) := by omega
              have hki : (k : Int) < 20 := by have := HB.out.2.2.2.1; omega
              obtain ⟨x, hx⟩ : ∃ x, houses[k]? = some x := ⟨_, List.getElem?_eq_getElem (by rw [← HN.out.2.2.2.1]; exact hlt)⟩
              obtain ⟨g1, o1, cs1, rfl, hg1, _, hH1, hr1⟩ := (L4.out.keep HK.out (fun _ _ _ h => h)).get k x hx
              have HXX := Lib.hid hx
              have hsx := (HS.out.houses.2 x (List.mem_of_getElem? hx)).2
              obtain ⟨x0, x1, x2, x3⟩ := x
              obtain ⟨gv, hgl, hcs⟩ := hH1
              simp only at hcs hgl
              obtain ⟨ga, gd, rfl, _⟩ := hgl.slice
              obtain ⟨m, hm⟩ : ∃ m, m = x2.length := ⟨_, rfl⟩
              rw [← hm] at hcs hgl
              subst hcs
              obtain ⟨s1, s2, s3⟩ := hsx
              simp only at s1 s2 s3
              have c1 : wr.cell? ⟨g1, o1 + k * 4 + 1, none⟩ = some (.string x1) := by have := hr1 1 _ rfl; simpa [eHouse] using this
              have HC2 : Hid (∀ w', Keep (fun _ => False) wr w' → w'.cell? ⟨g1, o1 + k * 4 + 2, none⟩ = some (.slice ga m gd)) := Lib.hid (fun w' kk => by
                have := (rangeAt_keep hr1 kk hg1 (fun h => h)) 2 _ rfl
                simpa [eHouse] using this)
              have i1 : (x1.size : Int) ≤ 30 := by omega
              have i3 : (m : Int) ≤ 5 := by omega
              have HM := Lib.hid hm
              have HGL := Lib.hid hgl
              have HS3 := Lib.hid s3
              clear hgl hr1 hx s1 s2 s3 hm hg1
              have c2 := HC2.out _ (Keep.refl _ wr)
              obtain ⟨M0, hM0⟩ : ∃ M0 : Nat, M0 = N3 + (64 + x1.size) := ⟨_, rfl⟩
              have hM0i : (N3 : Int) + (64 + (x1.size : Int)) = (M0 : Int) := by omega
              have HM0 := Lib.hid hM0
              clear hM0
              go_wp2_with fail
              generalize wr = wo at *
              go_loopw [3, 7] (fun n i wq => TxR tG x2 M0 wo n i wq) (fun _ i _ => m - (intOf i).toNat)
              case atStart => first | exact TxR.start (Keep.refl _ wo) | (rw [hM0i]; exact TxR.start (Keep.refl _ wo))
              case round =>
                obtain ⟨j, hj, rfl, rfl, hkk⟩ := hrel.ex
                clear hrel p6 c2
                have HKJ := Lib.hid hkk
                have p6 := (HP.out _ (HK.out.trans hkk (fun _ h => h.elim))).2.2.2.1
                have c2 := HC2.out _ hkk
                obtain ⟨N9, hN⟩ : ∃ NN, NN = M0 + sumF tG (x2.take j) := ⟨_, rfl⟩
                rw [← hN]
                have hNb9 : (N9 : Int) ≤ 20000 := by
                  have h1 := sumF_take (f := tG) (l := x2) (c := 94) (k := j) (m := 5) (by rw [← HM.out]; omega) (fun s hs => by have := HS3.out s hs; unfold tG; omega)
                  have := HM0.out
                  omega
                have HNN9 := Lib.hid hN
                rw [← HM.out] at hj
                clear hkk hN
                by_cases hltj : j < m
                · have hltj1 : (j : Int) < (m : Int) := by omega
                  have hji : (j : Int) < 20 := by omega
                  obtain ⟨y, hy⟩ : ∃ y, x2[j]? = some y := ⟨_, List.getElem?_eq_getElem (by rw [← HM.out]; exact hltj)⟩
                  obtain ⟨g2, o2, cs2, rfl, _, _, hH2, hr2⟩ := ((HGL.out).keep HKJ.out (fun _ _ _ h => h)).get j y hy
                  have HYY := Lib.hid hy
                  have hsy := HS3.out y (List.mem_of_getElem? hy)
                  have hcs : cs2 = [.string y] := hH2
                  subst hcs
                  have q0 : wr.cell? ⟨g2, o2 + j, none⟩ = some (.string y) := by have := hr2 0 _ rfl; simpa [eS] using this
                  have i9 : (y.size : Int) ≤ 30 := by omega
                  clear hH2 hr2 hy hsy
                  go_wp2_with fail
                  go_roundw
                  case rel =>
                    (repeat apply Exists.intro)
                    exact TxR.step HYY.out HNN9.out HKJ.out (by go_num) (by unfold tG; omega)
                  case measure => simp [intOf]; omega
                · obtain rfl : j = m := by omega
                  have HE9 : Hid (N9 = M0 + sumF tG x2) := Lib.hid (by rw [HNN9.out, sumF_all HM.out])
                  go_wp2_with fail
                  go_roundw
                  case rel =>
                    (repeat apply Exists.intro)
                    exact TxR.step HXX.out HNN3.out (HK.out.trans HKJ.out (fun _ h => h.elim)) (by go_num) (by have := HE9.out; have := HM0.out; unfold tH; simp only; omega)
                  case measure => simp [intOf]; omega
            · obtain rfl : k = n4 := by omega
              have HE3 : Hid (N3 = N2 + sumF tH houses) := Lib.hid (by rw [HNN3.out, sumF_all HN.out.2.2.2.1])
              have HK3 := Lib.hid HK.out
              clear HNN3 L4 HF4 hlt hk HK2 HK hNb2
              have p7 := (HP.out _ HK3.out).2.2.2.2.1
              go_wp2_with fail
              go_loopw [3, 8] (fun n i wr => TxR tL lots N3 w n i wr) (fun _ i _ => n5 - (intOf i).toNat)
              case atStart => exact TxR.start HK3.out
              case round =>
                obtain ⟨k, hk, rfl, rfl, hkk⟩ := hrel.ex
                clear hrel p7
                have HK := Lib.hid hkk
                have p7 := (HP.out _ hkk).2.2.2.2.1
                obtain ⟨N4, hN⟩ : ∃ NN, NN = N3 + sumF tL (lots.take k) := ⟨_, rfl⟩
                rw [← hN]
                have hNb4 : (N4 : Int) ≤ 18000 := by have := sumF_take (k := k) (m := 5) (by rw [← HN.out.2.2.2.2.1]; exact HB.out.2.2.2.2.1) HF5.out; omega
                have HNN4 := Lib.hid hN
                rw [← HN.out.2.2.2.2.1] at hk
                clear hkk hN
                by_cases hlt : k < n5
                · have hlt1 : (k : Int) < (n5 : Int) := by omega
                  have hki : (k : Int) < 20 := by have := HB.out.2.2.2.2.1; omega
                  obtain ⟨x, hx⟩ : ∃ x, lots[k]? = some x := ⟨_, List.getElem?_eq_getElem (by rw [← HN.out.2.2.2.2.1]; exact hlt)⟩
                  obtain ⟨g1, o1, cs1, rfl, _, _, hH1, hr1⟩ := (L5.out.keep HK.out (fun _ _ _ h => h)).get k x hx
                  have HXX := Lib.hid hx
                  have hsx := (HS.out.lots.2 x (List.mem_of_getElem? hx)).2
                  obtain ⟨x0, x1, x2, x3, x4, x5, x6⟩ := x
                  have hcs : cs1 = [.int .i64 x0, .int .i64 x1, .string x2, .int .i64 x3, .int .i64 x4, .string x5, .int .i64 x6] := hH1
                  subst hcs
                  obtain ⟨s1, s2⟩ := hsx
                  simp only at s1 s2
                  have c2 : wr.cell? ⟨g1, o1 + k * 7 + 2, none⟩ = some (.string x2) := by have := hr1 2 _ rfl; simpa [eLot] using this
                  have c5 : wr.cell? ⟨g1, o1 + k * 7 + 5, none⟩ = some (.string x5) := by have := hr1 5 _ rfl; simpa [eLot] using this
                  have i1 : (x2.size : Int) ≤ 30 := by omega
                  have i2 : (x5.size : Int) ≤ 30 := by omega
                  clear hH1 hr1 hx s1 s2
                  go_wp2_with fail
                  go_quiet (fail)
                  go_wp2_with fail
                  go_roundw
                  case rel =>
                    (repeat apply Exists.intro)
                    exact TxR.step HXX.out HNN4.out (HK.out.trans (kdrewM wr nq) (fun _ h => h.elim)) (by go_num) (by unfold tL; simp only; omega)
                  case measure => simp [intOf]; omega
                · obtain rfl : k = n5 := by omega
                  have HE4 : Hid (N4 = N3 + sumF tL lots) := Lib.hid (by rw [HNN4.out, sumF_all HN.out.2.2.2.2.1])
                  have HK4 := Lib.hid HK.out
                  have p5 := (HP.out _ HK4.out).2.2.1
                  have p8 := (HP.out _ HK4.out).2.2.2.2.2
                  have j3 : (n3 : Int) ≤ 8 := by have := HB.out.2.2.1; omega
                  have j6 : (n6 : Int) ≤ 5 := by have := HB.out.2.2.2.2.2; omega
                  go_wp2_with fail
                  go_quiet (fail)
                  go_wp2_with fail
                  go_ret
                  refine ⟨?_, HK4.out.trans (kdrewM wr nq) (fun _ h => h.elim)⟩
                  have e : ((txtN (now, next, minted, chars, things, mobs, houses, lots, tills) : Nat) : Int) = (N4 : Int) + 64 * ((n3 : Int) + (n6 : Int)) := by
                    unfold txtN
                    simp only
                    rw [← HN.out.2.2.1, ← HN.out.2.2.2.2.2]
                    have := HE1.out; have := HE2.out; have := HE3.out; have := HE4.out
                    omega
                  rw [e]
                  rfl

end Go.Proofs.Ytpefkellcigpkaa.Cd
