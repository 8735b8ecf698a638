/- World files: the reference's Parse. -/
import Derived.Test.YtcodbomgodkcmaaGreatDoorDbL
import Derived.Test.YtcodbomgodkcmaaGreatDoorDcV
import Derived.Test.YtcodbomgodkcmaaGreatDoorDcK
import Derived.Test.YtcodbomgodkcmaaGreatDoorDcN
import Derived.Test.YtcodbomgodkcmaaGreatDoorDcX
import Derived.Test.YtcodbomgodkcmaaGreatDoorDbF
namespace Go.Proofs.YtcodbomgodkcmaaGreatDoor.Wd
open Go.RowKit Go.Maps Go.Proofs.YtcodbomgodkcmaaGreatDoor Go.Proofs.YtcodbomgodkcmaaGreatDoor.Lin Go.Sort
set_option maxRecDepth 100000

/-- What the reference's Parse answers: the first line that is none, or the tables sorted. -/
def RefPA (w : World) (o : Nat ⊕ DbM) (e : Ending) (w' : World) : Prop :=
  Keep (fun _ => False) w w' ∧ ((∃ k : Nat, o = .inl k ∧ e = .returned (.tuple #[.pointer none, .int .i64 (k : Int)])) ∨
    (∃ D M d v1 v2 v3 v4 v5 v6 rr ss, o = .inr D ∧ SortDb (sortN D) M ∧ e = .returned (.tuple #[.pointer (some ⟨d, 0, none⟩), .int .i64 0]) ∧ DbV (fun b => w.heap.size ≤ b) w' d M v1 v2 v3 v4 v5 v6 rr ss))
/-- At line k. -/
structure PbR (L : List (List UInt8)) (n d : Nat) (w1 : World) (iv : Value) (wr : World) : Prop where
  ex : ∃ (k : Nat) (D : DbM) (v1 v2 v3 v4 v5 v6 : Value) (rr : List (RecM × Value)) (ss : List (ShopM × Value)), iv = .int .i64 (k : Int) ∧ k ≤ L.length ∧ parseU 0 L noDb = parseU k (L.drop k) D ∧ SzK k D ∧ DbV (TabD n wr) wr d (sortN D) v1 v2 v3 v4 v5 v6 rr ss ∧ Keep (TabD n w1) w1 wr
theorem DbV.bound {B : Nat → Prop} {w : World} {d : Nat} {D : DbM} {v1 v2 v3 v4 v5 v6 : Value} {rr : List (RecM × Value)} {ss : List (ShopM × Value)} (h : DbV B w d D v1 v2 v3 v4 v5 v6 rr ss) {P : Nat → Prop} (hB : ∀ b, B b → P b) : DbV P w d D v1 v2 v3 v4 v5 v6 rr ss :=
  ⟨h.blk, ⟨hB d h.base.1, fun b hb => hB b (h.base.2 b hb)⟩, h.l1, h.l2, h.l3, h.l4, h.l5, h.l6, h.fr, h.fs, h.ir, h.is,
    fun b hb => hB b (h.o1 b hb), fun b hb => hB b (h.o2 b hb), fun b hb => hB b (h.o3 b hb), fun b hb => hB b (h.o4 b hb), fun b hb => hB b (h.o5 b hb), fun b hb => hB b (h.o6 b hb),
    fun x hx b hb => hB b (h.qr x hx b hb), fun x hx b hb => hB b (h.qs x hx b hb)⟩
theorem DbV.keep0 {B : Nat → Prop} {w w' : World} {d : Nat} {D : DbM} {v1 v2 v3 v4 v5 v6 : Value} {rr : List (RecM × Value)} {ss : List (ShopM × Value)} (h : DbV B w d D v1 v2 v3 v4 v5 v6 rr ss) (k : Keep (fun _ => False) w w') : DbV B w' d D v1 v2 v3 v4 v5 v6 rr ss := h.keep k (fun _ _ _ h => h)
theorem stepU_words {x : List UInt8} {D : DbM} {h : List UInt8} {r : List (List UInt8)} (hw : wordsL x = h :: r) (hh : x.head? ≠ some 35) : stepU x D = (lineU ⟨h.toArray⟩ (txts r)).map (push D) := by
  unfold stepU; rw [hw]; simp only; rw [if_neg hh]
theorem hash_byte (c : UInt8) : ((c.toNat : Int) == 35) = decide (c = 35) := by
  rw [Bool.eq_iff_iff]
  simp only [beq_iff_eq, decide_eq_true_eq]
  exact ⟨fun e => UInt8.toNat_inj.1 (by show c.toNat = 35; omega), fun e => by rw [e]; rfl⟩
theorem words_ne {x : List UInt8} {h : List UInt8} {r : List (List UInt8)} (hw : wordsL x = h :: r) : x ≠ [] := fun e => by
  rw [e, show wordsL [] = [] from rfl] at hw; cases hw

theorem linesL_fit {s : ByteArray} (h : s.size ≤ 900000) : (linesL s.data.toList).length ≤ 900000 ∧ ∀ x ∈ linesL s.data.toList, x.length ≤ 900000 := by
  obtain ⟨h1, h2⟩ := linesGo_bound s.data.toList []
  have e : s.data.toList.length = s.size := by simp
  refine ⟨?_, fun x hx => ?_⟩
  · simp only [if_true] at h2; unfold linesL; omega
  · have := h1 x hx; simp only [List.length_nil] at this; omega
theorem words_fit {x : List UInt8} (h : x.length ≤ 900000) : (txts (wordsL x)).length ≤ 1000000 ∧ ∀ s ∈ txts (wordsL x), s.size ≤ 1000000 := by
  obtain ⟨h1, h2⟩ := wordsGo_bound x []
  constructor
  · rw [txts_length]; have : (wordsL x).length ≤ x.length + 1 := h2; omega
  · intro t ht
    obtain ⟨y, hy, rfl⟩ := List.mem_map.1 ht
    have := h1 y hy
    show y.toArray.size ≤ _
    simp at this ⊢; omega
theorem tab_not {d : Nat} {w : World} {g off cap : Nat} {l : List ByteArray} (h : WsAt w g off cap l) : ¬ TabD d w g := fun hf => by
  obtain ⟨cs, f, e⟩ := h.row.type rfl
  obtain ⟨cs2, t2, f2, e2, ht⟩ := hf.2 (lt_of_block e)
  rw [e] at e2
  cases e2
  revert ht
  decide
set_option maxHeartbeats 4000000 in
theorem refParse_any {w : World} (s : ByteArray) (hs : s.size ≤ 900000) :
    Calls Tryz.prog 9 #[.string s] w (RefPA w (parseU 0 (linesL s.data.toList) noDb)) := by
  obtain ⟨hL1, hL2⟩ := linesL_fit hs
  have HL := Lib.hid (fun (W : World) => refLines_any s (by omega) (w := W))
  generalize hLL : linesL s.data.toList = L at *
  have HL1 := Lib.hid hL1
  have HL2 := Lib.hid hL2
  clear hs hL1 hL2 hLL
  go_enter Tryz.func9, Tryz.ntmps9
  go_wp2_with (first
    | (go_at_call 20; (with_reducible refine (HL.out _).mono ?_); rintro e w1 ⟨v, rfl, row, own, k1⟩; have HROW := Lib.hid row; have K1 := Lib.hid (((Keep.refl (fun _ => False) w).alloc _).trans k1 (fun _ h => h.elim)); have H1 := Lib.hid ((((DbO.begin (w := w)).keep0 k1).types (n := w.heap.size) (fun _ h => h)).v); clear row k1 own; obtain ⟨va, vc, rfl, hvc, hvc2⟩ := HROW.out.slice; unfold maxLen at hvc2))
  obtain ⟨d, hd⟩ : ∃ d, d = w.heap.size := ⟨_, rfl⟩
  have HD := Lib.hid hd
  rw [← hd] at H1 ⊢
  clear hd
  go_loopw [6, 7] (fun iv _ wr => PbR L d d w1 iv wr) (fun iv _ _ => L.length - (intOf iv).toNat)
  case atStart => exact ⟨0, noDb, _, _, _, _, _, _, [], [], rfl, Nat.zero_le _, rfl, SzK.no, H1.out, Keep.refl _ _⟩
  case round =>
    obtain ⟨k, D, v1, v2, v3, v4, v5, v6, rr, ss, rfl, hk, hp, hz, ho, hK⟩ := hrel.ex
    have HO := Lib.hid ho; have HK := Lib.hid hK; have HZ := Lib.hid hz; have HP := Lib.hid hp
    clear ho hK hz hp hrel
    have HKW : Hid (∀ w9, Keep (TabD d wr) wr w9 → Keep (fun _ => False) w w9) := Lib.hid (fun w9 k9 => K1.out.trans (TabD.trans HK.out k9) (fun b hb => .inr (by rw [← HD.out]; exact hb.1)))
    by_cases hlt : k < L.length
    · have hd1 : decide (k < L.length) = true := by simpa using hlt
      obtain ⟨x, hx⟩ : ∃ x, L[k]? = some x := ⟨_, List.getElem?_eq_getElem hlt⟩
      obtain ⟨g, off, rfl, q0⟩ := line_cell (row_tabD HROW.out HK.out) hx
      have hxl := HL2.out x (List.mem_of_getElem? hx)
      have hkl : k ≤ 1000000 := by have := HL1.out; omega
      obtain ⟨S, hS⟩ : ∃ S : ByteArray, S = ⟨x.toArray⟩ := ⟨_, rfl⟩
      rw [← hS] at q0
      have hsx : S.size ≤ 1000000 := by rw [hS]; show x.toArray.size ≤ _; have := hxl; simp; omega
      have HWD := Lib.hid (refWords_any S hsx (w := wr))
      rw [show S.data.toList = x by rw [hS]] at HWD
      have hp2 := HP.out.trans (parseU_next hx)
      have HXL := Lib.hid hxl
      have HQ : Hid (∀ w9, Keep (fun _ => False) wr w9 → w9.cell? ⟨g, off + k, none⟩ = some (.string S)) := Lib.hid (fun w9 k9 => (k9.cell (World.block_lt_of_cell? _ _ q0) (fun h => h) _).trans q0)
      cases hw : wordsL x with
      | nil =>
        rw [hw] at HWD
        have hst : stepU x D = some D := by unfold stepU; rw [hw]
        rw [hst] at hp2
        have HP2 := Lib.hid hp2
        clear hx hxl hp2 hst hw hsx hS
        go_wp2_with (go_at_call 21; (with_reducible refine HWD.out.mono ?_); rintro e w2 ⟨v, rfl, row, own, k2⟩; obtain ⟨wa, wc, rfl, hwc, hwc2⟩ := row.slice; have K2 := Lib.hid k2; simp only [List.length_nil]; clear row own k2)
        go_roundw
        case rel => exact ⟨k + 1, D, _, _, _, _, _, _, _, _, by go_num, by omega, HP2.out, HZ.out.mono (Nat.le_succ k), (HO.out.keep0 K2.out).types (fun b hb => hb.1), HK.out.trans K2.out (fun _ h => h.elim)⟩
        case measure => simp [intOf]; omega
      | cons h r =>
        rw [hw] at HWD
        obtain ⟨c, x', hcx⟩ : ∃ c x', x = c :: x' := by
          cases x with
          | nil => exact absurd rfl (words_ne hw)
          | cons c x' => exact ⟨c, x', rfl⟩
        have hx0 : 0 < S.size := by rw [hS, hcx]; show 0 < (c :: x').toArray.size; simp
        have hb0 : S[0]'hx0 = c := by subst hS; subst hcx; rfl
        obtain ⟨nw, hnw⟩ : ∃ nw, nw = (h :: r).length := ⟨_, rfl⟩
        have hnw0 : 0 < nw := by rw [hnw]; simp
        have HNW := Lib.hid hnw
        unfold AnsL at HWD
        rw [← hnw] at HWD
        by_cases hh : c = 35
        · have hc35 : ((c.toNat : Int) == 35) = true := by rw [hash_byte, decide_eq_true_eq]; exact hh
          have hst : stepU x D = some D := by unfold stepU; rw [hw, hcx, hh]; rfl
          rw [hst] at hp2
          have HP2 := Lib.hid hp2
          have hb1 : (((S[0]'hx0).toNat : Int) == 35) = true := by rw [hb0]; exact hc35
          clear hx hxl hp2 hst hw hsx hcx hS hnw hb0 hc35
          go_wp2_with (go_at_call 21; (with_reducible refine HWD.out.mono ?_); rintro e w2 ⟨v, rfl, row, own, k2⟩; obtain ⟨wa, wc, rfl, hwc, hwc2⟩ := row.slice; have K2 := Lib.hid k2; have q1 := HQ.out w2 k2; clear row own k2)
          go_roundw
          case rel => exact ⟨k + 1, D, _, _, _, _, _, _, _, _, by go_num, by omega, HP2.out, HZ.out.mono (Nat.le_succ k), (HO.out.keep0 K2.out).types (fun b hb => hb.1), HK.out.trans K2.out (fun _ h => h.elim)⟩
          case measure => simp [intOf]; omega
        · have hc35 : ((c.toNat : Int) == 35) = false := by rw [hash_byte, decide_eq_false_iff_not]; exact hh
          have hb1 : (((S[0]'hx0).toNat : Int) == 35) = false := by rw [hb0]; exact hc35
          have hst : stepU x D = (lineU ⟨h.toArray⟩ (txts r)).map (push D) := stepU_words hw (by rw [hcx]; simpa using hh)
          have hlw : lineW (txts (h :: r)) = (lineU ⟨h.toArray⟩ (txts r)).map sortR := lineW_same _ _
          have hwf := words_fit hxl
          rw [hw] at hwf
          have hzn := HZ.out.sortN
          have hnl : (txts (h :: r)).length = nw := by rw [txts_length, hnw]
          have HSC : Hid (scells (h :: r) = tcells (txts (h :: r))) := Lib.hid (by rw [txts_cells])
          obtain ⟨l, hl⟩ : ∃ l, l = txts (h :: r) := ⟨_, rfl⟩
          rw [← hl] at hlw hwf hnl HSC
          have HLIN : Hid (∀ (w2 : World) (g2 o2 c2 : Nat), Keep (fun _ => False) wr w2 → WsAt w2 g2 o2 c2 l → Calls Tryz.prog 22 #[.pointer (some ⟨d, 0, none⟩), .slice (some ⟨g2, o2, none⟩) nw c2] w2 (LineA (TabD d w2) w2 d (sortN D) (lineW l))) := Lib.hid (fun w2 g2 o2 c2 k2 hws => by
            have h0 := refLine_any ((HO.out.keep0 k2).types (n := d) (fun b hb => hb.1)) hws (tab_not hws) hwf.1 hwf.2 (Nat.le_trans hzn.n1 hkl) (Nat.le_trans hzn.n2 hkl) (Nat.le_trans hzn.n3 hkl) (Nat.le_trans hzn.n4 hkl) (Nat.le_trans hzn.n5 hkl) (Nat.le_trans hzn.n6 hkl)
            rw [hnl] at h0
            exact h0)
          have HNL := Lib.hid hnl
          rw [hlw] at HLIN
          cases hU : lineU ⟨h.toArray⟩ (txts r) with
          | none =>
            rw [hU] at HLIN hst
            rw [hst] at hp2
            have HP2 := Lib.hid hp2
            clear hx hxl hp2 hst hw hsx hcx hS hnw hb0 hc35 hU hlw hwf hzn hnl hl
            go_wp2_with (first
              | (go_at_call 21; (with_reducible refine HWD.out.mono ?_); rintro e w2 ⟨v, rfl, row, own, k2⟩; obtain ⟨g2, o2, c2, rfl, hwc, hwc2⟩ := row.full hnw0; have K2 := Lib.hid k2; have q1 := HQ.out w2 k2; have HWS : Hid (WsAt w2 g2 o2 c2 l) := Lib.hid ⟨by rw [HNL.out, ← HSC.out]; exact row⟩; clear row own k2)
              | (go_at_call 22; (with_reducible refine (HLIN.out _ _ _ _ K2.out HWS.out).mono ?_); rintro e w3 hA; obtain ⟨rfl, k3⟩ : e = .returned (.bool false) ∧ Keep (TabD d w2) w2 w3 := (by (rcases hA with ⟨R, _, _, _, _, _, _, _, _, q, _⟩ | ⟨_, rfl, q3⟩); cases q; exact ⟨rfl, q3⟩); have K3 := Lib.hid (HKW.out _ (TabD.trans (TabD.same K2.out) k3)); clear k3 hA))
            go_ret2
            exact ⟨K3.out, .inl ⟨k + 1, HP2.out, by congr 1⟩⟩
          | some R =>
            rw [hU] at HLIN hst
            rw [hst] at hp2
            have HP2 := Lib.hid hp2
            have HZ2 := Lib.hid (stepU_size HZ.out (by omega) hst)
            clear hx hxl hp2 hst hw hsx hcx hS hnw hb0 hc35 hU hlw hwf hzn hnl hl
            go_wp2_with (first
              | (go_at_call 21; (with_reducible refine HWD.out.mono ?_); rintro e w2 ⟨v, rfl, row, own, k2⟩; obtain ⟨g2, o2, c2, rfl, hwc, hwc2⟩ := row.full hnw0; have K2 := Lib.hid k2; have q1 := HQ.out w2 k2; have HWS : Hid (WsAt w2 g2 o2 c2 l) := Lib.hid ⟨by rw [HNL.out, ← HSC.out]; exact row⟩; clear row own k2)
              | (go_at_call 22; (with_reducible refine (HLIN.out _ _ _ _ K2.out HWS.out).mono ?_); rintro e w3 hA; obtain ⟨rfl, a1, a2, a3, a4, a5, a6, a7, a8, q3, k3⟩ : e = .returned (.bool true) ∧ ∃ a1 a2 a3 a4 a5 a6 a7 a8, DbV (TabD d w2) w3 d (push (sortN D) (sortR R)) a1 a2 a3 a4 a5 a6 a7 a8 ∧ Keep (TabD d w2) w2 w3 := (by (rcases hA with ⟨R', _, _, _, _, _, _, _, _, q, he, q3, q4⟩ | ⟨q, _⟩); (cases q; exact ⟨he, _, _, _, _, _, _, _, _, q3, q4⟩); cases q); have HO3 := Lib.hid (q3.types (n := d) (fun b hb => hb.1)); have K3 := Lib.hid (TabD.trans HK.out (TabD.trans (TabD.same K2.out) k3)); clear k3 q3 hA))
            go_roundw
            case rel => exact ⟨k + 1, push D R, _, _, _, _, _, _, _, _, by go_num, by omega, HP2.out, HZ2.out, by rw [← push_sort]; exact HO3.out, K3.out⟩
            case measure => simp [intOf]; omega
    · have hd1 : decide (k < L.length) = false := by rw [decide_eq_false_iff_not]; omega
      obtain rfl : k = L.length := by omega
      have HPE : Hid (parseU 0 L noDb = .inr D) := Lib.hid (by rw [HP.out, List.drop_length]; rfl)
      have hz := HZ.out.sortN.sz (by have := HL1.out; omega)
      have HSO := Lib.hid (refSort_any HO.out hz.n1 hz.n2 hz.n3 hz.n4 hz.n5 hz.n6)
      clear hz
      go_wp2_with (go_at_call 23; (with_reducible refine HSO.out.mono ?_); rintro e w2 ⟨rfl, M, r2, s2, hsd, ho2, hk2⟩; have HSD := Lib.hid hsd; have HO2 := Lib.hid ho2; have HK2 := Lib.hid hk2; clear hsd ho2 hk2)
      go_ret2
      exact ⟨HKW.out _ HK2.out, .inr ⟨D, M, d, _, _, _, _, _, _, _, _, HPE.out, HSD.out, rfl, HO2.out.bound (fun b hb => by rw [← HD.out]; exact hb.1)⟩⟩
end Go.Proofs.YtcodbomgodkcmaaGreatDoor.Wd
/- World files: the law of any text. -/
namespace Go.Proofs.YtcodbomgodkcmaaGreatDoor.Wd
open Go.RowKit Go.Maps Go.Proofs.YtcodbomgodkcmaaGreatDoor Go.Proofs.YtcodbomgodkcmaaGreatDoor.Lin Go.Sort
set_option maxRecDepth 100000

theorem parseU_line : ∀ (L : List (List UInt8)) (k : Nat) (D : DbM) (n : Nat), parseU k L D = .inl n → 0 < n
  | [], _, _, _, h => by cases h
  | x :: L, k, D, n, h => by
    rw [parseU] at h
    cases hs : stepU x D with
    | none => rw [hs] at h; cases h; exact Nat.succ_pos k
    | some D' => rw [hs] at h; exact parseU_line L (k + 1) D' n h
theorem parseU_size : ∀ (L : List (List UInt8)) (k : Nat) (D E : DbM), SzK k D → (∀ x ∈ L, x.length ≤ 1000000) → parseU k L D = .inr E → SzK (k + L.length) E
  | [], k, D, E, h, _, e => by cases e; exact h
  | x :: L, k, D, E, h, hx, e => by
    rw [parseU] at e
    cases hs : stepU x D with
    | none => rw [hs] at e; cases e
    | some D' =>
      rw [hs] at e
      have h0 := parseU_size L (k + 1) D' E (stepU_size h (hx x (by simp)) hs) (fun y hy => hx y (by simp [hy])) e
      exact h0.mono (by rw [List.length_cons]; omega)
theorem SzD.db {D : DbM} (h : SzD D) : DbSz D := ⟨h.n1, h.n2, h.n3, h.n4, h.n5, h.n6, h.a1, h.a2, h.a3, h.a4, h.a6⟩
theorem checkF_or (D : DbM) : checkF D = 0 ∨ checkF D = 6 ∨ checkF D = 13 := by
  unfold checkF
  repeat' split
  all_goals first | exact .inl rfl | exact .inr (.inl rfl) | exact .inr (.inr rfl)

theorem cut6_any {w : World} (s : ByteArray) : Calls Tryz.prog 7 #[.string s, .int .i64 6000] w fun e w' => ∃ t : ByteArray, e = .returned (.string t) ∧ t.size ≤ 6000 ∧ w = w' := by
  by_cases h : 6000 < s.size
  · have hi : (6000 : Int) < (s.size : Int) := by omega
    go_enter Tryz.func7, Tryz.ntmps7
    go_wp2
    go_ret
    exact ⟨s.extract 0 6000, rfl, by rw [ByteArray.size_extract]; omega, rfl⟩
  · have hi : (s.size : Int) ≤ (6000 : Int) := by omega
    go_enter Tryz.func7, Tryz.ntmps7
    go_wp2
    go_ret
    exact ⟨s, rfl, by omega, rfl⟩
set_option maxHeartbeats 4000000 in
theorem dbParse_any {w : World} (hT : T12 w) (hg : w.cell? ⟨0, 0, none⟩ = some (.iface 146 (.agg #[.pointer (some ⟨Tryz.prog.globals.size, 26, none⟩)]))) (s : ByteArray) :
    Calls Tryz.prog 3 #[.string s] w fun e w' => e = .returned (.bool true) ∧ Keep (fun _ => False) w w' := by
  have HT := Lib.hid hT
  have HG := Lib.hid (fun w' (k : Keep (fun _ => False) w w') => (k.cell (cell_lt hg) (fun h => h) 0).trans hg)
  have HB := Lib.hid (begun_any hT hg)
  have HC := Lib.hid (fun w => cut6_any (w := w) s)
  have A5 := Lib.hid (fun w r tb old => as_line (w := w) (r := r) (tb := tb) (old := old))
  have I13 := Lib.hid (fun w r k (h : LErr w r k) => isF_line h)
  simp only [lineErr] at A5 I13
  clear hT hg
  go_enter Tryz.func3, Tryz.ntmps3
  go_wp2_with (first
    | (go_at_call 6; (with_reducible refine HB.out.mono ?_); rintro e w1 ⟨rfl, k1⟩; have K := Lib.hid k1; clear k1 HB)
    | (go_at_call 7; (with_reducible refine (HC.out _).mono ?_); rintro e w' ⟨t, rfl, ht, rfl⟩))
  have HTT := Lib.hid (T12.keep0 HT.out K.out)
  obtain ⟨o, ho⟩ : ∃ o, o = parseU 0 (linesL t.data.toList) noDb := ⟨_, rfl⟩
  have HP := Lib.hid (parse_any HTT.out t (by omega))
  have HR := Lib.hid (fun w => refParse_any (w := w) t (by omega))
  rw [← ho] at HP HR
  obtain ⟨hL1, hL2⟩ := linesL_small (s := t) (by omega)
  cases o with
  | inl k =>
    have hk := parseU_line _ _ _ _ ho.symm
    have d1 : decide (0 < k) = true := by rw [decide_eq_true_eq]; exact hk
    clear ho hL1 hL2
    refine HP.out.mono ?_
    rintro e w2 ⟨k2, hA⟩
    obtain ⟨b, rfl, hb⟩ : ∃ b, e = .returned (.tuple #[.pointer none, .iface 31 (.pointer (some ⟨b, 0, none⟩))]) ∧ LErr w2 b k := by
      rcases hA with ⟨k', b, q, he, hb⟩ | ⟨_, _, q, _⟩ | ⟨_, _, _, _, _, _, _, _, _, _, _, q, _⟩
      · cases q; exact ⟨b, he, hb⟩
      · cases q
      · cases q
    have HBL := Lib.hid hb; have K2 := Lib.hid (K.out.trans k2 (fun _ h => h.elim))
    clear hb hA k2
    go_wp2_with (first
      | (go_at_call 9; (with_reducible refine (HR.out _).mono ?_); rintro e w3 ⟨k3, hA⟩; obtain rfl : e = .returned (.tuple #[.pointer none, .int .i64 (k : Int)]) := (by (rcases hA with ⟨k', q, he⟩ | ⟨_, _, _, _, _, _, _, _, _, _, _, q, _⟩); (cases q; exact he); cases q); have K3 := Lib.hid (K2.out.trans k3 (fun _ h => h.elim)); have HBL := Lib.hid (HBL.out.keep k3 (fun h => h)); clear k3 hA)
      | (go_at_call 10; (with_reducible refine (A5.out _ _ _ _ (HG.out _ (K3.out.alloc _)) (heap_alloc_new _ _)).mono ?_); rintro e w5 ⟨rfl, hc, k5⟩; have K5 := Lib.hid ((K3.out.alloc _).trans k5 (fun b hb => .inr (by rw [hb]; exact K3.out.size))); have HBL := Lib.hid ((HBL.out.keep ((Keep.refl (fun _ => False) _).alloc _) (fun h => h)).keep k5 (fun e => by have := lt_of_block HBL.out; omega)); have cl := (cell_of_row w5 _ 0 _ _ _ HBL.out).trans rfl; clear k5)
      | (go_at_call 11; (with_reducible refine (I13.out _ _ _ HBL.out).mono ?_); rintro e w' ⟨rfl, rfl⟩))
    all_goals go_ret
    all_goals exact ⟨rfl, K5.out⟩
  | inr D =>
    have hsz := parseU_size _ _ _ _ SzK.no hL2 ho.symm
    rw [Nat.zero_add] at hsz
    have HSZ := Lib.hid hsz.sortN
    have HL1 := Lib.hid hL1
    clear ho hL1 hL2 hsz
    have HRQ : Hid (∀ (w2 : World) (M : DbM), SortDb D M → Calls Tryz.prog 9 #[.string t] w2 fun e w3 => ∃ d2 v1 v2 v3 v4 v5 v6 rr ss M2, e = .returned (.tuple #[.pointer (some ⟨d2, 0, none⟩), .int .i64 0]) ∧ DbV (fun b => w2.heap.size ≤ b) w3 d2 M2 v1 v2 v3 v4 v5 v6 rr ss ∧ checkF M2 = checkF (sortN M) ∧ (checkF (sortN M) ≠ 13 → M2 = sortN M) ∧ DbSz M2 ∧ Keep (fun _ => False) w2 w3) := Lib.hid (fun w2 M hM => (HR.out w2).mono fun e w3 hA => by
      obtain ⟨k3, hA⟩ := hA
      rcases hA with ⟨k', q, _⟩ | ⟨D', M2, d2, v1, v2, v3, v4, v5, v6, rr, ss, q, hsd, he, hv⟩
      · cases q
      · cases q
        obtain ⟨c1, c2⟩ := check_same (SortDb.sorted hM) hsd
        exact ⟨d2, v1, v2, v3, v4, v5, v6, rr, ss, M2, he, hv, c1.symm, fun h => (c2 h).symm, ((HSZ.out.sorted hsd).sz HL1.out).db, k3⟩)
    refine HP.out.mono ?_
    rintro e w2 ⟨k2, hA⟩
    rcases hA with ⟨k', b, q, _⟩ | ⟨D', M, q, hM, hc, rfl⟩ | ⟨D', M, d, v1, v2, v3, v4, v5, v6, rr, ss, q, hM, hc, rfl, hdb⟩
    · cases q
    · cases q
      obtain ⟨c, hcc⟩ : ∃ c, c = checkF (sortN M) := ⟨_, rfl⟩
      have HRM := Lib.hid (HRQ.out · M hM)
      rw [← hcc] at hc HRM ⊢
      have d2 : (c != 0) = true := by simpa using hc
      have I9 := Lib.hid (fun w => Ino.isF_same c (by simpa using hc) (w := w))
      simp only [apiErr] at I9
      unfold errV
      rw [if_neg hc]
      have K2 := Lib.hid (K.out.trans k2 (fun _ h => h.elim))
      clear hcc hc k2 hM
      go_wp2_with (first
        | (go_at_call 9; (with_reducible refine (HRM.out _).mono ?_); rintro e w3 ⟨d2, v1, v2, v3, v4, v5, v6, rr, ss, M2, rfl, hv, hck, _, hz, k3⟩; have HCK := Lib.hid (refCheck_any hv.at hz); rw [hck] at HCK; have K3 := Lib.hid (K2.out.trans k3 (fun _ h => h.elim)); clear hv hck hz k3)
        | (go_at_call 12; (with_reducible refine HCK.out.mono ?_); rintro e w4 ⟨rfl, k4⟩; have K4 := Lib.hid (K3.out.trans k4 (fun _ h => h.elim)); clear k4)
        | (go_at_call 11; (with_reducible refine (I9.out _).mono ?_); rintro e w' ⟨rfl, rfl⟩))
      all_goals go_ret
      all_goals exact ⟨rfl, K4.out⟩
    · cases q
      have HRM := Lib.hid (HRQ.out · M hM)
      rw [hc] at HRM
      have K2 := Lib.hid (K.out.trans k2 (fun _ h => h.elim))
      have HDB := Lib.hid hdb.v.at
      clear hc k2 hM hdb
      go_wp2_with (first
        | (go_at_call 9; (with_reducible refine (HRM.out _).mono ?_); rintro e w3 ⟨d2, v1, v2, v3, v4, v5, v6, rr, ss, M2, rfl, hv, hck, hm, hz, k3⟩; have HCK := Lib.hid (refCheck_any hv.at hz); rw [hck] at HCK; obtain rfl := hm (by decide); have HV := Lib.hid hv.at; have HDB := Lib.hid (HDB.out.keep k3 (fun _ _ h => h)); have K3 := Lib.hid (K2.out.trans k3 (fun _ h => h.elim)); clear hv hck hz k3 hm)
        | (go_at_call 12; (with_reducible refine HCK.out.mono ?_); rintro e w4 ⟨rfl, k4⟩; have K4 := Lib.hid (K3.out.trans k4 (fun _ h => h.elim)); have HEQ := Lib.hid (eq_same (HDB.out.keep k4 (fun _ _ h => h)) (HV.out.keep k4 (fun _ _ h => h))); clear k4)
        | (go_at_call 13; (with_reducible refine HEQ.out.mono ?_); rintro e w5 ⟨rfl, k5⟩; have K5 := Lib.hid (K4.out.trans k5 (fun _ h => h.elim)); clear k5))
      all_goals go_ret
      all_goals exact ⟨rfl, K5.out⟩
end Go.Proofs.YtcodbomgodkcmaaGreatDoor.Wd
