/- BitsAll: what the law does at every number and every list of operations. -/
import Derived.Test.YtflfmcnbojphgaaBitLaw
import Derived.Deep.CutBlock
import Derived.Deep.CutRange
namespace Go.Proofs.Ytflfmcnbojphgaa
set_option maxRecDepth 100000
open Go.RowKit

/-- The law's own list: which are taken. -/
def haveC (n : Nat) (B : List UInt8) : List Value := (List.range n).map fun j => Value.bool (mbit B j)

theorem haveC_length (n : Nat) (B : List UInt8) : (haveC n B).length = n := by simp [haveC]

theorem haveC_get (n : Nat) (B : List UInt8) (j : Nat) (h : j < n) : (haveC n B)[j]? = some (.bool (mbit B j)) := by simp [haveC, h]

theorem haveC_set (n : Nat) (B B' : List UInt8) (i : Nat) (b : Bool) (hi : i < n) (hB : ∀ j, j < n → mbit B' j = if j = i then b else mbit B j) : (haveC n B).set i (.bool b) = haveC n B' := by
  apply List.ext_getElem?
  intro j
  rw [List.getElem?_set]
  by_cases h : j < n
  · rw [haveC_get _ _ _ h, haveC_get _ _ _ h, hB j h]
    by_cases e : i = j
    · subst e; simp [haveC, hi]
    · have e' : ¬ j = i := fun h => e h.symm
      simp [e, e']
  · have h1 : (haveC n B)[j]? = none := List.getElem?_eq_none (by rw [haveC_length]; omega)
    have h2 : (haveC n B')[j]? = none := List.getElem?_eq_none (by rw [haveC_length]; omega)
    rw [h1, h2, haveC_length]
    by_cases e : i = j
    · omega
    · simp [e]

/-- What holds at the head of each round. -/
structure BAll (w0 : World) (n g cap : Nat) (p : Nat) (B : List UInt8) (wr : World) : Prop where
  map : IsMap wr p n B
  row : Row wr 4 1 (.slice (some ⟨g, 0, none⟩) n n) n (haveC n B)
  ne : p ≠ g
  newp : w0.heap.size ≤ p
  newg : w0.heap.size ≤ g
  keep : Keep (fun _ => False) w0 wr

theorem BAll.go {w0 wr wr' : World} {n g cap p : Nat} {B : List UInt8} (h : BAll w0 n g cap p B wr) (k : Keep (fun _ => False) wr wr') : BAll w0 n g cap p B wr' :=
  ⟨h.map.keep k (fun h => h), h.row.keep k (fun _ _ h => h), h.ne, h.newp, h.newg, h.keep.trans k (fun _ h => h.elim)⟩

/-- The map has changed, then the list. -/
theorem BAll.turn {w0 wr wr' : World} {n g cap p : Nat} {B B' : List UInt8} (h : BAll w0 n g cap p B wr) (hm : IsMap wr' p n B') (k : Keep (fun b => b = p) wr wr') (i : Nat) (b : Bool) (hi : i < n)
    (hB : ∀ j, j < n → mbit B' j = if j = i then b else mbit B j) : BAll w0 n g cap p B' (wr'.setCell ⟨g, i, none⟩ (.bool b)) := by
  have hr : Row wr' 4 1 (.slice (some ⟨g, 0, none⟩) n n) n (haveC n B) := h.row.keep k (fun x hx e => by simp [Value.ownBlock] at hx; exact h.ne (by rw [← e, ← hx]))
  have hs := hr.stored i (.bool b)
  rw [Nat.zero_add, haveC_set n B B' i b hi hB] at hs
  have ks := (Keep.refl (fun x => x = g) wr').setCell ⟨g, i, none⟩ (.bool b) (.inl rfl)
  exact ⟨hm.keep ks h.ne, hs, h.ne, h.newp, h.newg, (h.keep.trans k (fun x hx => .inr (by rw [hx]; exact h.newp))).trans ks (fun x hx => .inr (by rw [hx]; exact h.newg))⟩

/-- The least of those from m on that is free, or -1. -/
def Want (B : List UInt8) (n m : Nat) (x : Int) : Prop :=
  (x = -1 ∧ ∀ j, m ≤ j → j < n → mbit B j = true) ∨ ∃ t : Nat, x = t ∧ m ≤ t ∧ t < n ∧ mbit B t = false ∧ ∀ j, m ≤ j → j < t → mbit B j = true

theorem Want.start (B : List UInt8) (n : Nat) : Want B n n (-1) := .inl ⟨rfl, fun j h1 h2 => by omega⟩

theorem Want.yes {B : List UInt8} {n m : Nat} (hm : m < n) (hb : mbit B m = false) : Want B n m m := .inr ⟨m, rfl, Nat.le_refl _, hm, hb, fun j h1 h2 => by omega⟩

theorem Want.no {B : List UInt8} {n m : Nat} {x : Int} (h : Want B n (m + 1) x) (hb : mbit B m = true) : Want B n m x := by
  rcases h with ⟨h1, h2⟩ | ⟨t, h1, h2, h3, h4, h5⟩
  · refine .inl ⟨h1, fun j h3 h4 => ?_⟩
    rcases Nat.eq_or_lt_of_le h3 with e | e
    · rw [← e]; exact hb
    · exact h2 j e h4
  · refine .inr ⟨t, h1, by omega, h3, h4, fun j h6 h7 => ?_⟩
    rcases Nat.eq_or_lt_of_le h6 with e | e
    · rw [← e]; exact hb
    · exact h5 j e h7

theorem Want.done {B : List UInt8} {n : Nat} {x : Int} (h : Want B n 0 x) : (x = -1 ∧ ∀ j, j < n → mbit B j = true) ∨ ∃ t : Nat, x = t ∧ t < n ∧ IsLeast B t := by
  rcases h with ⟨h1, h2⟩ | ⟨t, h1, _, h3, h4, h5⟩
  · exact .inl ⟨h1, fun j hj => h2 j (Nat.zero_le _) hj⟩
  · exact .inr ⟨t, h1, h3, h4, fun j hj => h5 j (Nat.zero_le _) hj⟩

theorem bset_get {n : Nat} {B : List UInt8} (h : MOk n B) {i : Nat} (hi : i < n) (j : Nat) : mbit (bset B i) j = if j = i then true else mbit B j := by
  have := h.most
  rw [mbit_bset (by rw [h.len]; omega)]
  by_cases e : j = i <;> simp [e]

theorem bclr_get {n : Nat} {B : List UInt8} (h : MOk n B) {i : Nat} (hi : i < n) (j : Nat) : mbit (bclr B i) j = if j = i then false else mbit B j := by
  have := h.most
  rw [mbit_bclr (by rw [h.len]; omega)]
  by_cases e : j = i <;> simp [e]

theorem ex_least (B : List UInt8) : ∀ n, (∀ j, j < n → mbit B j = true) ∨ ∃ t, t < n ∧ IsLeast B t
  | 0 => .inl (fun j hj => by omega)
  | n + 1 => by
    rcases ex_least B n with h | ⟨t, h1, h2⟩
    · cases hb : mbit B n with
      | true =>
        refine .inl fun j hj => ?_
        rcases Nat.lt_or_ge j n with h3 | h3
        · exact h j h3
        · obtain rfl : j = n := by omega
          exact hb
      | false => exact .inr ⟨n, by omega, hb, h⟩
    · exact .inr ⟨t, by omega, h2⟩

theorem haveC_zero (n : Nat) : (madeCells #[Value.bool false] n).toList = haveC n noBits := by
  rw [toList_madeCells_one]
  apply List.ext_getElem?
  intro j
  by_cases h : j < n
  · rw [haveC_get _ _ _ h, mbit_none, List.getElem?_replicate, if_pos h]
  · rw [List.getElem?_eq_none (by simp; omega), List.getElem?_eq_none (by rw [haveC_length]; omega)]

theorem Try.infoBoolM : (Try.prog.info? 4).map (fun i => (i.zero, i.size, i.bytes)) = some (some (.bool false), 1, 1) := by kernel_rfl

theorem keep_drewN (w : World) (n : Nat) : Keep (fun _ => False) w (w.drewN n) := ⟨rfl, rfl, rfl, Nat.le_refl _, fun _ _ _ => rfl⟩

def outB (n : Int) : Bool := !decide (0 ≤ n ∧ n ≤ 100)

def freeN (B : List UInt8) (m : Nat) : Int := (m : Int) - (cnt B m : Int)

theorem freeN_fit (B : List UInt8) (m : Nat) : 0 ≤ freeN B m ∧ freeN B m ≤ m := by
  have := cnt_le B m
  unfold freeN; omega

theorem freeN_succ (B : List UInt8) (m : Nat) : freeN B (m + 1) = freeN B m + (if mbit B m then 0 else 1) := by
  unfold freeN
  rw [cnt_succ]
  split <;> omega

/-- What the law's own slots bear at the head of each round. -/
structure BRel (w : World) (n g L : Nat) (m i : Value) (wr : World) : Prop where
  ex : ∃ (k p : Nat) (B : List UInt8), k ≤ L ∧ i = .int .i64 k ∧ m = .pointer (some ⟨p, 0, none⟩) ∧ BAll w n g n p B wr

theorem BRel.of {w : World} {n g L : Nat} {wr : World} (k p : Nat) (B : List UInt8) {x : Int} (hx : x = (k : Int)) (h1 : k ≤ L) (h : BAll w n g n p B wr) : BRel w n g L (.pointer (some ⟨p, 0, none⟩)) (.int .i64 x) wr := ⟨⟨k, p, B, h1, by rw [hx], rfl, h⟩⟩

theorem IsLeast.uniq {B : List UInt8} {s t : Nat} (h : IsLeast B s) (k : IsLeast B t) : s = t := by
  rcases Nat.lt_trichotomy s t with c | c | c
  · have := k.2 s c; rw [h.1] at this; cases this
  · exact c
  · have := h.2 t c; rw [k.1] at this; cases this

/-- The list of operations lies there. -/
structure OpsAt (w : World) (v : Value) (ops : List (Int × Int)) : Prop where
  seen : Seen w 2 v ops.length (ocells ops)
  fit : ∀ x ∈ ops, inInt x.1 ∧ inInt x.2

set_option maxHeartbeats 4000000 in
theorem bits_any {w : World} (n0 : Int) {v : Value} {ops : List (Int × Int)} (h : OpsAt w v ops) :
    Calls Try.prog 3 #[.int .i64 n0, v] w fun e w' => e = .returned (.bool true) ∧ Keep (fun _ => False) w w' := by
  obtain ⟨i0, hi0, hz0, hz1, hz2⟩ := info_parts Try.infoBoolM
  have HI := Lib.hid hi0; have HZ0 := Lib.hid hz0; have HZ1 := Lib.hid hz1; have HZ2 := Lib.hid hz2
  have HO := Lib.hid h
  obtain ⟨a, L, capv, hl1, rfl, hc1, hc2⟩ : ∃ a L capv, ops.length = L ∧ v = .slice a L capv ∧ L ≤ capv ∧ capv ≤ maxLen := by
    obtain ⟨_, a, cap, h1, h2, h3, _⟩ := h.seen
    exact ⟨a, ops.length, cap, rfl, h1, h2, h3⟩
  have HL := Lib.hid hl1
  unfold maxLen at hc2
  clear h hl1 hi0 hz0 hz1 hz2
  obtain ⟨n, hn, hn2⟩ : ∃ n : Nat, n ≤ 100 ∧ (n : Int) = (if outB n0 = true then 20 else n0) := by
    by_cases hc : 0 ≤ n0 ∧ n0 ≤ 100
    · exact ⟨n0.toNat, by omega, by rw [if_neg (by simp [outB]; omega)]; omega⟩
    · exact ⟨20, by omega, by rw [if_pos (by simp [outB]; omega)]; rfl⟩
  have HN2 := Lib.hid hn2
  clear hn2
  go_enter Try.func3, Try.ntmps3
  go_wp2_with fail
  refine begun4_any.mono ?_
  rintro e w1 ⟨rfl, hk1⟩
  have HK1 := Lib.hid hk1
  clear hk1
  go_upto_region 4 with (fail)
  go_cut [29] from 24 to 29 (fun b wx => b = .bool (outB n0) ∧ Keep (fun _ => False) w wx)
  case first =>
    by_cases g1 : n0 < 0
    · go_wp2
      go_meet
      exact ⟨by simp [outB]; omega, HK1.out⟩
    · by_cases g2 : 100 < n0
      · go_wp2
        go_meet
        exact ⟨by simp [outB]; omega, HK1.out⟩
      · go_wp2
        go_meet
        exact ⟨by simp [outB]; omega, HK1.out⟩
  case rest =>
    obtain ⟨rfl, hk1⟩ := hcut
    have HK1 := Lib.hid hk1
    clear hk1
    go_upto_if 29 with (fail)
    go_cut [0] from 24 to 29 (fun s wx => s = .int .i64 (n : Int) ∧ Keep (fun _ => False) w wx)
    case first =>
      cases ho : outB n0 with
      | true =>
        have e := HN2.out
        rw [if_pos ho] at e
        have HE := Lib.hid e
        clear e ho
        go_wp2
        go_meet
        exact ⟨by rw [HE.out], HK1.out⟩
      | false =>
        have e := HN2.out
        rw [if_neg (by simp [ho])] at e
        have HE := Lib.hid e
        clear e ho
        go_wp2
        go_meet
        exact ⟨by rw [HE.out], HK1.out⟩
    case rest =>
      obtain ⟨rfl, hk1⟩ := hcut
      have HK1 := Lib.hid hk1
      clear hk1
      go_wp2_with fail
      refine (newM_any n (by omega)).mono ?_
      rintro e w2 ⟨rfl, r1, r2, r3⟩
      have R1 := Lib.hid r1; have R2 := Lib.hid r2; have R3 := Lib.hid r3
      clear r1 r2 r3
      go_wp2_with (at_make; go_loud (refine wpList_make_row rfl (.tmp 32) (.tmp 32) rfl Try.underlying26 HI.out HZ0.out HZ1.out HZ2.out n rfl rfl rfl rfl (by omega) (by unfold maxLen; omega) ?mk))
      case mk =>
        intro w3 hr3 hk3 hs3
        have hB : BAll w n w2.heap.size n wc.heap.size noBits w3 := by
          refine ⟨R1.out.keep hk3 (fun h => h), ?_, by have := R3.out; omega, HK1.out.size, by have := HK1.out.size; have := R2.out.size; omega, (HK1.out.trans R2.out (fun _ h => h.elim)).trans hk3 (fun _ h => h.elim)⟩
          rw [haveC_zero] at hr3
          exact hr3
        have HB := Lib.hid hB
        have HLT := Lib.hid hs3
        generalize wc.heap.size = p0 at *
        generalize w2.heap.size = g at *
        clear hr3 hk3 hs3 hB
        go_wp2_with fail
        go_loopw [6, 8] (fun m i wr => BRel w n g L m i wr) (fun _ i _ => L - (intOf i).toNat)
        case atStart => exact BRel.of 0 p0 noBits rfl (by omega) HB.out
        case round =>
          obtain ⟨k, p, B, hk, rfl, rfl, hF⟩ := hrel.ex
          have HF := Lib.hid hF
          clear hF HB HLT HK1 R1 R2 R3
          by_cases t1 : k < L
          · by_cases t2 : k < 150
            · obtain ⟨go, oo, rfl, hgo, hcell⟩ : ∃ go oo, a = some ⟨go, oo, none⟩ ∧ go < w.heap.size ∧ ∀ j u, (ocells ops)[j]? = some u → w.cell? ⟨go, oo + j, none⟩ = some u := by
                obtain ⟨_, a', cap', e, _, _, h4⟩ := HO.out.seen
                simp only [Value.slice.injEq] at e
                rcases h4 with h4 | ⟨go, oo, ea, h5, h6⟩
                · have := HL.out; omega
                · exact ⟨go, oo, by rw [e.1, ea], h5, h6⟩
              have hkL : k < ops.length := by rw [HL.out]; exact t1
              obtain ⟨q0, q1⟩ := ocells_get ops k hkL
              have c0 : wr.cell? ⟨go, oo + k * 2, none⟩ = some (.int .i64 (ops[k]).1) := by rw [HF.out.keep.cell hgo (fun h => h)]; exact hcell _ _ q0
              have c1 : wr.cell? ⟨go, oo + k * 2 + 1, none⟩ = some (.int .i64 (ops[k]).2) := by rw [HF.out.keep.cell hgo (fun h => h), Nat.add_assoc]; exact hcell _ _ q1
              obtain ⟨f0, f1⟩ := HO.out.fit _ (List.getElem_mem hkL)
              obtain ⟨f1a, f1b⟩ := f1
              clear hcell q0 q1 f0
              generalize (ops[k]).1 = kd at *
              generalize (ops[k]).2 = ii at *
              have HF2 : Hid (BAll w n g n p B (wr.alloc (.cells #[.int .i64 kd, .int .i64 ii] 28))) := Lib.hid (HF.out.go ((Keep.refl (fun _ => False) wr).alloc _))
              go_upto_region 12 with (fail)
              go_cut [10] from 34 to 194 (fun b wx => b = .bool (knowsB n ii) ∧ wx = wr.alloc (.cells #[.int .i64 kd, .int .i64 ii] 28))
              case first =>
                by_cases g1 : 0 ≤ ii
                · by_cases g2 : ii < n
                  · go_wp2
                    go_meet
                    exact ⟨by simp [knowsB, g1, g2], rfl⟩
                  · go_wp2
                    go_meet
                    exact ⟨by simp [knowsB, g1, g2], rfl⟩
                · go_wp2
                  go_meet
                  exact ⟨by simp [knowsB]; omega, rfl⟩
              case rest =>
                obtain ⟨rfl, rfl⟩ := hcut
                go_upto_block 2 with (fail)
                go_cut [6, 10, 11, 12, 13, 14, 15, 16, 17] from 34 to 194 (fun m _ _ _ _ _ _ _ _ wx => ∃ (p' : Nat) (B' : List UInt8), m = .pointer (some ⟨p', 0, none⟩) ∧ BAll w n g n p' B' wx)
                case first =>
                  have HROW := Lib.hid HF2.out.row
                  have hk3 : kd = 0 ∨ kd = 1 ∨ kd = 2 ∨ (kd ≠ 0 ∧ kd ≠ 1 ∧ kd ≠ 2) := by omega
                  rcases hk3 with rfl | rfl | rfl | ⟨k0, k1, k2⟩
                  · as_aux_lemma =>
                    rcases ex_least B n with hall | ⟨t, ht, hl⟩
                    · have HA := Lib.hid hall
                      clear hall
                      go_wp2_with fail
                      refine (take_full HF2.out.map HA.out).mono ?_
                      rintro e w' ⟨rfl, rfl⟩
                      go_wp2_with fail
                      go_loop [13, 14] (fun x j => ∃ z : Int, x = .int .i64 z ∧ ((j = .int .i64 (-1) ∧ Want B n 0 z) ∨ ∃ m : Nat, m < n ∧ j = .int .i64 m ∧ Want B n (m + 1) z)) (fun _ j => (intOf j + 1).toNat)
                      case atStart =>
                        refine ⟨-1, rfl, ?_⟩
                        rcases Nat.eq_zero_or_pos n with rfl | hp
                        · exact .inl ⟨by simp, Want.start B 0⟩
                        · exact .inr ⟨n - 1, by omega, by congr 1; omega, by rw [show n - 1 + 1 = n by omega]; exact Want.start B n⟩
                      case round =>
                        obtain ⟨z, rfl, hz⟩ := hrel
                        rcases hz with ⟨rfl, hw⟩ | ⟨m, hm, rfl, hw⟩
                        · rcases hw.done with ⟨rfl, _⟩ | ⟨t, _, ht, hl⟩
                          · clear hw
                            go_wp2_with (go_at_call 7; refine (isM_same 2 rfl).mono ?_; rintro e w' ⟨rfl, rfl⟩)
                            go_meet
                            exact ⟨p, B, rfl, HF2.out⟩
                          · have := HA.out t ht
                            rw [hl.1] at this
                            cases this
                        · have c5 := HROW.out.cellAt m (by omega)
                          rw [haveC_get _ _ _ hm, Nat.zero_add] at c5
                          cases hb : mbit B m with
                          | true =>
                            rw [hb] at c5
                            have HW := Lib.hid (hw.no hb)
                            clear hw hb
                            go_wp2
                            go_round
                            case rel =>
                              refine ⟨_, rfl, ?_⟩
                              rcases m with _ | q
                              · exact .inl ⟨by simp, HW.out⟩
                              · exact .inr ⟨q, by omega, by congr 1; omega, HW.out⟩
                            case measure => simp [intOf] <;> omega
                          | false =>
                            rw [hb] at c5
                            have HW := Lib.hid (Want.yes hm hb)
                            clear hw hb
                            go_wp2
                            go_round
                            case rel =>
                              refine ⟨_, rfl, ?_⟩
                              rcases m with _ | q
                              · exact .inl ⟨by simp, HW.out⟩
                              · exact .inr ⟨q, by omega, by congr 1; omega, HW.out⟩
                            case measure => simp [intOf] <;> omega
                    · have HA := Lib.hid hl
                      clear hl
                      go_wp2_with fail
                      refine (take_one HF2.out.map t ht HA.out).mono ?_
                      rintro e w2 ⟨rfl, r1, r2⟩
                      have R1 := Lib.hid r1; have R2 := Lib.hid r2
                      have HROW := Lib.hid (HF2.out.row.keep r2 (fun x hx e => by simp [Value.ownBlock] at hx; exact HF2.out.ne (by rw [← e, ← hx])))
                      clear r1 r2
                      go_wp2_with fail
                      go_loop [13, 14] (fun x j => ∃ z : Int, x = .int .i64 z ∧ ((j = .int .i64 (-1) ∧ Want B n 0 z) ∨ ∃ m : Nat, m < n ∧ j = .int .i64 m ∧ Want B n (m + 1) z)) (fun _ j => (intOf j + 1).toNat)
                      case atStart =>
                        refine ⟨-1, rfl, ?_⟩
                        rcases Nat.eq_zero_or_pos n with rfl | hp
                        · exact .inl ⟨by simp, Want.start B 0⟩
                        · exact .inr ⟨n - 1, by omega, by congr 1; omega, by rw [show n - 1 + 1 = n by omega]; exact Want.start B n⟩
                      case round =>
                        obtain ⟨z, rfl, hz⟩ := hrel
                        rcases hz with ⟨rfl, hw⟩ | ⟨m, hm, rfl, hw⟩
                        · rcases hw.done with ⟨_, hall⟩ | ⟨t', rfl, ht', hl⟩
                          · have := hall t ht
                            rw [HA.out.1] at this
                            cases this
                          · obtain rfl := hl.uniq HA.out
                            have hth := HROW.out.there t' (by omega)
                            rw [Nat.zero_add] at hth
                            obtain ⟨hc5, f5⟩ := hth
                            obtain ⟨c5v, c5⟩ := Option.isSome_iff_exists.1 hc5
                            have HN := Lib.hid (HF2.out.turn R1.out R2.out t' true ht (fun j _ => bset_get HF2.out.map.ok ht j))
                            clear hw hl hc5
                            go_wp2
                            go_meet
                            exact ⟨p, _, rfl, HN.out⟩
                        · have c5 := HROW.out.cellAt m (by omega)
                          rw [haveC_get _ _ _ hm, Nat.zero_add] at c5
                          cases hb : mbit B m with
                          | true =>
                            rw [hb] at c5
                            have HW := Lib.hid (hw.no hb)
                            clear hw hb
                            go_wp2
                            go_round
                            case rel =>
                              refine ⟨_, rfl, ?_⟩
                              rcases m with _ | q
                              · exact .inl ⟨by simp, HW.out⟩
                              · exact .inr ⟨q, by omega, by congr 1; omega, HW.out⟩
                            case measure => simp [intOf] <;> omega
                          | false =>
                            rw [hb] at c5
                            have HW := Lib.hid (Want.yes hm hb)
                            clear hw hb
                            go_wp2
                            go_round
                            case rel =>
                              refine ⟨_, rfl, ?_⟩
                              rcases m with _ | q
                              · exact .inl ⟨by simp, HW.out⟩
                              · exact .inr ⟨q, by omega, by congr 1; omega, HW.out⟩
                            case measure => simp [intOf] <;> omega
                  · as_aux_lemma =>
                    cases hkn : knowsB n ii with
                    | false =>
                      have HK := Lib.hid hkn
                      clear hkn
                      go_wp2_with (first | (go_at_call 8; refine (free_out HF2.out.map ii HK.out).mono ?_; rintro e w' ⟨rfl, rfl⟩) | (go_at_call 7; refine (isM_same 1 rfl).mono ?_; rintro e w' ⟨rfl, rfl⟩))
                      go_meet
                      exact ⟨p, B, rfl, HF2.out⟩
                    | true =>
                      have hkn' := hkn
                      simp only [knowsB, decide_eq_true_eq] at hkn'
                      obtain ⟨i, rfl⟩ := Int.eq_ofNat_of_zero_le hkn'.1
                      have hi : i < n := by omega
                      have HK := Lib.hid hkn
                      clear hkn hkn'
                      cases hb : mbit B i with
                      | false =>
                        have HBB := Lib.hid hb
                        have c5 := HF2.out.row.cellAt i (by omega)
                        rw [haveC_get _ _ _ hi, Nat.zero_add, hb] at c5
                        clear hb
                        go_wp2_with fail
                        refine (free_was HF2.out.map i hi HBB.out).mono ?_
                        rintro e w' ⟨rfl, rfl⟩
                        go_wp2_with fail
                        go_quiet (fail)
                        go_wp2_with (go_at_call 7; refine (isM_same 4 rfl).mono ?_; rintro e w' ⟨rfl, rfl⟩)
                        go_meet
                        exact ⟨p, B, rfl, HF2.out.go (keep_drewN _ _)⟩
                      | true =>
                        have HBB := Lib.hid hb
                        clear hb
                        go_wp2_with fail
                        refine (free_old HF2.out.map i hi HBB.out).mono ?_
                        rintro e w2 ⟨rfl, r1, r2⟩
                        have R1 := Lib.hid r1; have R2 := Lib.hid r2
                        have c5 := (HF2.out.row.keep r2 (fun x hx e => by simp [Value.ownBlock] at hx; exact HF2.out.ne (by rw [← e, ← hx]))).cellAt i (by omega)
                        rw [haveC_get _ _ _ hi, Nat.zero_add, HBB.out] at c5
                        have c6 : w2.cell? ⟨wr.heap.size, 0, none⟩ = some (.int .i64 1) := by rw [r2.cell (by simp) (fun e => by have := HF.out.map.lt; omega)]; simp [World.cell?_alloc_new]
                        have c7 : w2.cell? ⟨wr.heap.size, 1, none⟩ = some (.int .i64 (i : Int)) := by rw [r2.cell (by simp) (fun e => by have := HF.out.map.lt; omega)]; simp [World.cell?_alloc_new]
                        have f5 := ((HF2.out.row.keep r2 (fun x hx e => by simp [Value.ownBlock] at hx; exact HF2.out.ne (by rw [← e, ← hx]))).there i (by omega)).2
                        rw [Nat.zero_add] at f5
                        have HN := fun q => HF2.out.turn (R1.out.keep (keep_drewN w2 q) (fun h => h)) (R2.out.trans (keep_drewN w2 q) (fun _ h => h.elim)) i false hi (fun j _ => bclr_get HF2.out.map.ok hi j)
                        have HN := Lib.hid HN
                        clear r1 r2
                        go_wp2_with fail
                        go_quiet (fail)
                        go_wp2_with fail
                        go_meet
                        exact ⟨p, _, rfl, HN.out _⟩
                  · as_aux_lemma =>
                    cases hkn : knowsB n ii with
                    | false =>
                      have HK := Lib.hid hkn
                      clear hkn
                      go_wp2_with (first | (go_at_call 9; refine (set_out HF2.out.map ii HK.out).mono ?_; rintro e w' ⟨rfl, rfl⟩) | (go_at_call 7; refine (isM_same 1 rfl).mono ?_; rintro e w' ⟨rfl, rfl⟩))
                      go_meet
                      exact ⟨p, B, rfl, HF2.out⟩
                    | true =>
                      have hkn' := hkn
                      simp only [knowsB, decide_eq_true_eq] at hkn'
                      obtain ⟨i, rfl⟩ := Int.eq_ofNat_of_zero_le hkn'.1
                      have hi : i < n := by omega
                      have HK := Lib.hid hkn
                      clear hkn hkn'
                      cases hb : mbit B i with
                      | true =>
                        have HBB := Lib.hid hb
                        have c5 := HF2.out.row.cellAt i (by omega)
                        rw [haveC_get _ _ _ hi, Nat.zero_add, hb] at c5
                        clear hb
                        go_wp2_with fail
                        refine (set_was HF2.out.map i hi HBB.out).mono ?_
                        rintro e w' ⟨rfl, rfl⟩
                        go_wp2_with fail
                        go_quiet (fail)
                        go_wp2_with (go_at_call 7; refine (isM_same 4 rfl).mono ?_; rintro e w' ⟨rfl, rfl⟩)
                        go_meet
                        exact ⟨p, B, rfl, HF2.out.go (keep_drewN _ _)⟩
                      | false =>
                        have HBB := Lib.hid hb
                        clear hb
                        go_wp2_with fail
                        refine (set_new HF2.out.map i hi HBB.out).mono ?_
                        rintro e w2 ⟨rfl, r1, r2⟩
                        have R1 := Lib.hid r1; have R2 := Lib.hid r2
                        have c5 := (HF2.out.row.keep r2 (fun x hx e => by simp [Value.ownBlock] at hx; exact HF2.out.ne (by rw [← e, ← hx]))).cellAt i (by omega)
                        rw [haveC_get _ _ _ hi, Nat.zero_add, HBB.out] at c5
                        have c6 : w2.cell? ⟨wr.heap.size, 0, none⟩ = some (.int .i64 2) := by rw [r2.cell (by simp) (fun e => by have := HF.out.map.lt; omega)]; simp [World.cell?_alloc_new]
                        have c7 : w2.cell? ⟨wr.heap.size, 1, none⟩ = some (.int .i64 (i : Int)) := by rw [r2.cell (by simp) (fun e => by have := HF.out.map.lt; omega)]; simp [World.cell?_alloc_new]
                        have f5 := ((HF2.out.row.keep r2 (fun x hx e => by simp [Value.ownBlock] at hx; exact HF2.out.ne (by rw [← e, ← hx]))).there i (by omega)).2
                        rw [Nat.zero_add] at f5
                        have HN := fun q => HF2.out.turn (R1.out.keep (keep_drewN w2 q) (fun h => h)) (R2.out.trans (keep_drewN w2 q) (fun _ h => h.elim)) i true hi (fun j _ => bset_get HF2.out.map.ok hi j)
                        have HN := Lib.hid HN
                        clear r1 r2
                        go_wp2_with fail
                        go_quiet (fail)
                        go_wp2_with fail
                        go_meet
                        exact ⟨p, _, rfl, HN.out _⟩
                  · as_aux_lemma =>
                    have e0 : (kd == 0) = false := by simpa using k0
                    have e1 : (kd == 1) = false := by simpa using k1
                    have e2 : (kd == 2) = false := by simpa using k2
                    clear k0 k1 k2
                    go_wp2_with fail
                    refine (bytes_any HF2.out.map).mono ?_
                    rintro e w2 ⟨v2, rfl, r1, r2, r3⟩
                    have R1 := Lib.hid r1; have R2 := Lib.hid r2
                    clear r1 r2 r3
                    go_wp2_with fail
                    refine (load_own HF2.out.map.ok R1.out).mono ?_
                    rintro e w3' ⟨rfl, s1, s2⟩
                    have HX := Lib.hid (HF2.out.go (R2.out.trans s2 (fun _ h => h.elim)))
                    have HN : Hid (BAll w n g n w2.heap.size B w3') := Lib.hid ⟨s1, HX.out.row, fun e => by have := (HF2.out.row.lt (k := g) rfl); have := R2.out.size; omega, by have := HF2.out.keep.size; have := R2.out.size; omega, HX.out.newg, HX.out.keep⟩
                    clear s1 s2
                    go_wp2_with fail
                    go_meet
                    exact ⟨_, B, rfl, HN.out⟩
                case rest =>
                  as_aux_lemma =>
                  obtain ⟨p', B', rfl, hF3⟩ := hcut
                  have HF3 := Lib.hid hF3
                  clear hF3 HF HF2 c0 c1
                  go_wp2_with fail
                  go_loop [18, 19] (fun l j => ∃ z : Int, l = .int .i64 z ∧ ((j = .int .i64 (-1) ∧ z = 0) ∨ ∃ m : Nat, m ≤ n + 1 ∧ j = .int .i64 m ∧ z = freeN B' (min m n))) (fun _ j => ((n : Int) + 1 - intOf j).toNat)
                  case atStart => exact ⟨0, rfl, .inl ⟨rfl, rfl⟩⟩
                  case round =>
                    obtain ⟨z, rfl, hz⟩ := hrel
                    rcases hz with ⟨rfl, rfl⟩ | ⟨m, hm, rfl, hz⟩
                    · have HK : Hid (knowsB n (-1) = false) := Lib.hid (by simp [knowsB])
                      have t3 : decide ((-1 : Int) ≤ n) = true := by rw [decide_eq_true_eq]; omega
                      go_wp2_with (go_at_call 12; refine (has_out HF3.out.map (-1) HK.out).mono ?_; rintro e w' ⟨rfl, rfl⟩)
                      go_round
                      case rel => exact ⟨_, rfl, .inr ⟨0, by omega, rfl, by simp [freeN, cnt]⟩⟩
                      case measure => simp [intOf] <;> omega
                    · by_cases t3 : m < n
                      · have c5 := HF3.out.row.cellAt m (by omega)
                        rw [haveC_get _ _ _ t3, Nat.zero_add] at c5
                        have hmin : min m n = m := by omega
                        rw [hmin] at hz
                        have hfit := freeN_fit B' m
                        have HS := Lib.hid (freeN_succ B' m)
                        have HM : Hid (min (m + 1) n = m + 1) := Lib.hid (by omega)
                        rw [← hz] at hfit
                        have HZ := Lib.hid hz
                        clear hz hmin
                        cases hb : mbit B' m
                        all_goals
                          rw [hb] at c5
                          have HBB := Lib.hid hb
                          clear hb
                          go_wp2_with (go_at_call 12; refine (has_map HF3.out.map m t3).mono ?_; rw [HBB.out]; rintro e w' ⟨rfl, rfl⟩)
                          go_round
                          case rel => exact ⟨_, rfl, .inr ⟨m + 1, by omega, by go_num, by rw [HM.out, HS.out, HBB.out, ← HZ.out]; simp⟩⟩
                          case measure => simp [intOf] <;> omega
                      · by_cases t4 : m = n
                        · subst t4
                          have HK : Hid (knowsB m (m : Int) = false) := Lib.hid (by simp [knowsB])
                          have HM : Hid (min (m + 1) m = min m m) := Lib.hid (by omega)
                          have HZ := Lib.hid hz
                          clear hz
                          go_wp2_with (go_at_call 12; refine (has_out HF3.out.map m HK.out).mono ?_; rintro e w' ⟨rfl, rfl⟩)
                          go_round
                          case rel => exact ⟨_, rfl, .inr ⟨m + 1, by omega, by go_num, by rw [HM.out]; exact HZ.out⟩⟩
                          case measure => simp [intOf] <;> omega
                        · obtain rfl : m = n + 1 := by omega
                          have hmin : min (n + 1) n = n := by omega
                          rw [hmin] at hz
                          unfold freeN at hz
                          subst hz
                          clear hmin t4
                          have hcl := cnt_le B' n
                          go_wp2_with (go_at_call 13; refine (left_any HF3.out.map).mono ?_; rintro e w' ⟨rfl, rfl⟩)
                          go_roundw
                          case rel => exact BRel.of (k + 1) p' B' (x := (k : Int) + 1) (by omega) (by omega) HF3.out
                          case measure => simp [intOf] <;> omega
            · have HF4 := HF.out.keep
              go_wp2
              go_ret
              exact ⟨rfl, HF4⟩
          · have HF4 := Lib.hid HF.out.keep
            go_wp2
            go_ret
            exact ⟨rfl, HF4.out⟩

end Go.Proofs.Ytflfmcnbojphgaa
