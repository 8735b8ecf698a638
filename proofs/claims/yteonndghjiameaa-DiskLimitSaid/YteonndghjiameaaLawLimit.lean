/- DiskLimit answers true at every two numbers: behind so many writes the power is off, and what waits then waits for the crash. -/
import Derived.Test.YteonndghjiameaaLawA
namespace Go.Proofs.Yteonndghjiameaa
open Go.ChangeShapes Go.WideShapes Go.ChangeAt Go.RowKit Go.Deep

def secOne : ByteArray := secStr [1]

/-- The disk behind m writes, one a sector. -/
def limD (n : Nat) : Nat → Dk
  | 0 => (Dk.fresh (List.replicate 40 zeroSec)).limit n
  | m + 1 => (limD n m).write m secOne

theorem limD_facts (n : Nat) : ∀ m, (limD n m).las = List.replicate 40 zeroSec ∧ (limD n m).lim = true ∧ (limD n m).left = (n : Int) - m ∧ (limD n m).writes = m ∧ (limD n m).cache = (List.range m).map fun i => (i, secOne)
  | 0 => ⟨rfl, by simp [limD, Dk.limit], by simp [limD, Dk.limit], rfl, rfl⟩
  | m + 1 => by
    obtain ⟨h1, h2, h3, h4, h5⟩ := limD_facts n m
    refine ⟨h1, h2, ?_, ?_, ?_⟩
    · simp only [limD, Dk.write, h2, if_true, h3]; omega
    · simp only [limD, Dk.write, h4]; omega
    · simp only [limD, Dk.write, h5, List.range_succ, List.map_append, List.map_cons, List.map_nil]

theorem limD_len (n m : Nat) : (limD n m).las.length = 40 := by rw [(limD_facts n m).1, List.length_replicate]

theorem limD_dead (n m : Nat) : deadB (limD n m) = decide (m = n) := by
  obtain ⟨_, h2, h3, _⟩ := limD_facts n m
  simp only [deadB, h2, h3, Bool.true_and]
  rw [Bool.eq_iff_iff]; simp; omega

theorem pick_all (n : Nat) : ∀ (c : List (Nat × ByteArray)), c.length ≤ n → pick c (List.replicate n true) = c := by
  intro c
  induction c generalizing n with
  | nil => intro _; simp [pick]
  | cons x c ih =>
    intro h
    cases n with
    | zero => simp at h
    | succ n => rw [List.replicate_succ]; simp only [pick, if_true]; rw [ih n (by simpa using h)]; rfl

theorem putAll_range (s : ByteArray) (l : List ByteArray) : ∀ (m : Nat), m ≤ l.length → ∀ i, i < l.length → (putAll l ((List.range m).map fun i => (i, s))).getD i default = if i < m then s else l.getD i default
  | 0, _, i, _ => by simp [putAll]
  | m + 1, h, i, hi => by
    have ih := putAll_range s l m (by omega) i hi
    rw [List.range_succ, List.map_append, List.map_cons, List.map_nil, putAll_snoc]
    rw [List.getD_eq_getElem?_getD] at ih ⊢
    rw [List.getElem?_set]
    by_cases hm : m = i
    · subst hm; simp [putAll_length, hi]
    · simp only [hm, if_false, ih, show (i < m + 1 ↔ i < m) by omega]

/-- What the crash finds. -/
def limC (m i : Nat) : ByteArray := if i < m then secOne else zeroSec

/-- The world before the flush. -/
def LimAt (w : World) (p n m : Nat) (wr : World) : Prop := Disk wr (fun b => w.heap.size ≤ b) p (limD n m) ∧ Keep (fun _ => False) w wr

/-- The disk behind the flush. -/
structure LimF (w : World) (p n k : Nat) (D : Dk) (wr : World) : Prop where
  disk : Disk wr (fun b => w.heap.size ≤ b) p D
  keep : Keep (fun _ => False) w wr
  writes : D.writes = (min n k : Nat)
  dead : deadB D = decide (n ≤ k)
  wait : D.cache.length = if n ≤ k then n else 0
  len : D.las.length = 40
  find : ∀ i, i < 40 → (D.crash (List.replicate 40 true)).new.getD i default = limC (min n k) i

theorem lim_flush {w wr : World} {p n k : Nat} (h : LimAt w p n (min k n) wr) (hn : n ≤ 30) (hk : k ≤ 30) :
    Calls Try.prog 7 #[.pointer (some ⟨p, 0, none⟩)] wr fun e w' => e = .returned (.tuple #[]) ∧ ∃ D, LimF w p n k D w' := by
  obtain ⟨⟨vl, vn, vc, hd, hF⟩, hkw⟩ := h
  obtain ⟨f1, f2, f3, f4, f5⟩ := limD_facts n (min k n)
  have hdead := limD_dead n (min k n)
  have hlen := limD_len n (min k n)
  have hfind : ∀ i, i < 40 → (putAll (limD n (min k n)).las ((List.range (min k n)).map fun i => (i, secOne))).getD i default = limC (min n k) i := fun i hi => by
    rw [putAll_range _ _ _ (by omega) _ (by omega), f1, Nat.min_comm k n]
    simp only [limC]
    split
    · rfl
    · rw [List.getD_eq_getElem?_getD, List.getElem?_replicate, if_pos hi]; rfl
  by_cases hkn : n ≤ k
  · have e : min k n = n := by omega
    refine (flush_dead hd (by rw [hdead, e]; simp)).mono ?_
    rintro e' w' ⟨rfl, rfl⟩
    refine ⟨rfl, _, ⟨vl, vn, vc, hd, hF⟩, hkw, by rw [f4, Nat.min_comm], by rw [hdead, e]; simp [hkn], by rw [f5]; simp [e, hkn], hlen, fun i hi => ?_⟩
    have := hfind i hi
    rw [← this]
    simp only [Dk.crash, Dk.fresh]
    rw [pick_all 40 _ (by rw [f5]; simp; omega), f5]
  · have e : min k n = k := by omega
    refine (flush_any hd (by rw [hdead, e]; simp; omega)).mono ?_
    rintro e' w' ⟨rfl, hd', hk'⟩
    refine ⟨rfl, _, ⟨vl, vn, _, hd', fun b hb => ?_⟩, hkw.trans hk' (fun b hb => .inr (hF b hb)), by show (limD n (min k n)).writes = _; rw [f4, Nat.min_comm], ?_, by simp [Dk.flush, hkn], ?_, fun i hi => ?_⟩
    · rcases hb with hb | hb | hb | hb
      · exact hF b (.inl hb)
      · exact hF b (.inr (.inl hb))
      · exact hF b (.inr (.inr (.inl hb)))
      · simp [Value.ownBlock] at hb
    · show deadB (limD n (min k n)) = _
      rw [hdead, e]
      simp [hkn]; omega
    · show (putAll _ _).length = 40
      rw [putAll_length, hlen]
    · have := hfind i hi
      rw [← this]
      simp only [Dk.crash, Dk.fresh, Dk.flush, pick, putAll, List.foldl_nil]
      rw [f5]

/-- Full, then a write of sector i. -/
theorem lim_write {w wr w2 : World} {p n i : Nat} (h : LimAt w p n (min i n) wr) (hi : i < 30) (hn : n ≤ 30) (hk2 : Keep (fun _ => False) wr w2) {g : Nat}
    (hr : Row w2 5 1 (.slice (some ⟨g, 0, none⟩) 512 512) 512 (bcells (secOf 512 [1]))) :
    Calls Try.prog 11 #[.pointer (some ⟨p, 0, none⟩), .int .i64 i, .slice (some ⟨g, 0, none⟩) 512 512] w2 fun e w' => e = .returned .nilIface ∧ LimAt w p n (min (i + 1) n) w' := by
  obtain ⟨⟨vl, vn, vc, hd, hF⟩, hkw⟩ := h
  have hd2 := hd.keep hk2 (fun _ _ h => h)
  obtain ⟨f1, f2, f3, f4, f5⟩ := limD_facts n (min i n)
  have hdead := limD_dead n (min i n)
  have hlen := limD_len n (min i n)
  have hs := hkw.size
  have hs2 := hk2.size
  by_cases hin : i < n
  · have e : min i n = i := by omega
    have e1 : min (i + 1) n = i + 1 := by omega
    rw [e] at hd2 f1 f2 f3 f4 f5 hdead hlen
    rw [e1]
    refine (write_alive hd2 i (by rw [hlen]; omega) g 0 512 (secOf 512 [1]) (secOf_length _ _) (bytesAt_row hr) (by rw [hdead]; simp; omega) (by rw [f4]; omega) (by rw [f3]; omega) (by rw [f5]; simp; omega)).mono ?_
    rintro e' w' ⟨rfl, hD, hK⟩
    exact ⟨rfl, hD.mono (fun b hb => by
      rcases hb with hb | hb
      · exact hF b hb
      · omega), (hkw.trans hk2 (fun _ h => h.elim)).trans hK (fun b hb => .inr (hF b hb))⟩
  · have e : min i n = n := by omega
    have e1 : min (i + 1) n = n := by omega
    rw [e] at hd2 hdead hlen
    rw [e1]
    refine (write_dead hd2 i (by rw [hlen]; simp [hasB]; omega) _ 512 (by rw [hdead]; simp)).mono ?_
    rintro e' w' ⟨rfl, rfl⟩
    exact ⟨rfl, ⟨vl, vn, vc, hd2, hF⟩, hkw.trans hk2 (fun _ h => h.elim)⟩

/-- The first k of n bools are true. -/
def trues (n k : Nat) : List Value := List.replicate k (.bool true) ++ List.replicate (n - k) (.bool false)

theorem trues_step (n k : Nat) (h : k < n) : (trues n k).set k (.bool true) = trues n (k + 1) := by
  simp only [trues]
  have e1 : k - (List.replicate k (Value.bool true)).length = 0 := by simp
  have e2 : n - k = (n - (k + 1)) + 1 := by omega
  rw [List.set_append_right _ _ (by simp), e1, e2, List.replicate_succ, List.set_cons_zero, List.replicate_succ', List.append_assoc]
  rfl

theorem trues_all (n : Nat) : trues n n = bools (List.replicate n true) := by simp [trues, bools]

theorem Try.infoBool : (Try.prog.info? 4).map (fun i => (i.zero, i.size, i.bytes)) = some (some (.bool false), 1, 1) := by kernel_rfl

theorem zero_head : (byteCells zeroSec)[0]? = some (.int .u8 0) := by
  have : byteCells zeroSec = (List.replicate 512 (0 : UInt8)).map fun b => Value.int .u8 (b.toNat : Int) := rfl
  rw [this, List.getElem?_map, List.getElem?_replicate, if_pos (by omega)]
  rfl

theorem limC_head (m i : Nat) : (byteCells (limC m i))[0]? = some (.int .u8 (if i < m then 1 else 0)) := by
  simp only [limC]
  split
  · rw [secOne, byteCells_sec, bcells, List.getElem?_map, secOf_head _ _ _ (by omega)]; rfl
  · exact zero_head

set_option maxHeartbeats 2000000 in
set_option maxRecDepth 100000 in
theorem limit_out {w : World} (n k : Int) (h : n < 0 ∨ 30 < n ∨ k < 0 ∨ 30 < k) : Calls Try.prog 5 #[.int .i64 n, .int .i64 k] w fun e w' => e = .returned (.bool true) ∧ Keep (fun _ => False) w w' := by
  have h' : n < 0 ∨ (¬ n < 0 ∧ 30 < n) ∨ (¬ n < 0 ∧ ¬ 30 < n ∧ k < 0) ∨ (¬ n < 0 ∧ ¬ 30 < n ∧ ¬ k < 0 ∧ 30 < k) := by omega
  clear h
  rcases h' with h1 | ⟨h1, h2⟩ | ⟨h1, h2, h3⟩ | ⟨h1, h2, h3, h4⟩
  all_goals
    go_enter Try.func5, Try.ntmps5
    go_wp2_with (go_at_call 9; refine begun_any.mono ?_; rintro e w1 ⟨rfl, hk1⟩; have HK1 := Lib.hid hk1; clear hk1)
    go_ret
    exact ⟨rfl, HK1.out⟩

set_option maxHeartbeats 2000000 in
set_option maxRecDepth 100000 in
theorem limit_in {w : World} (n k : Nat) (hn : n ≤ 30) (hk : k ≤ 30) : Calls Try.prog 5 #[.int .i64 n, .int .i64 k] w fun e w' => e = .returned (.bool true) ∧ Keep (fun _ => False) w w' := by
  obtain ⟨i0, hi0, hz0, hz1, hz2⟩ := info_parts Try.infoBool
  go_enter Try.func5, Try.ntmps5
  go_wp2_with fail
  refine begun_any.mono ?_
  rintro e w0 ⟨rfl, hk0⟩
  have HK0 := Lib.hid hk0
  clear hk0
  go_wp2_with fail
  refine (new_any 40 (by omega) (by omega)).mono ?_
  rintro e w1 ⟨p, vl, vn, rfl, hd, hk1, ho⟩
  have HD := Lib.hid hd; have HK := Lib.hid (HK0.out.trans hk1 (fun _ h => h.elim)); have HO := Lib.hid ho
  have HS0 := Lib.hid HK0.out.size
  clear hd hk1 ho
  go_wp2_with fail
  refine (limit_any HD.out n rfl).mono ?_
  rintro e w2 ⟨rfl, hd2, hk2, hs2⟩
  have H0 : LimAt w p n (min 0 n) w2 := by
    have s0 := HS0.out
    rw [Nat.zero_min]
    exact ⟨⟨vl, vn, _, hd2, fun b hb => by have := (HO.out b hb).1; omega⟩, HK.out.trans hk2 (fun b hb => .inr (by have := (HO.out b (.inl hb)).1; omega))⟩
  have HL := Lib.hid H0
  clear H0 hd2 hk2 hs2
  go_wp2_with fail
  go_loopw [7] (fun i wr => ∃ m : Nat, m ≤ k ∧ i = .int .i64 m ∧ LimAt w p n (min m n) wr) (fun i _ => k - (intOf i).toNat)
  case atStart => exact ⟨0, by omega, rfl, HL.out⟩
  case round =>
    obtain ⟨m, hm, rfl, hF⟩ := hrel
    have HF := Lib.hid hF
    clear hF
    by_cases t1 : m < k
    · go_wp2_with fail
      refine (full_any (l := [1]) (Row.made #[Value.int .u8 1] _ 1 rfl (by simp [maxLen]) rfl).seen (by simp [Value.ownBlock])).mono ?_
      rintro e w5 ⟨rfl, hr, hk5, hs5⟩
      simp only [World.size_alloc] at hr hs5
      have HR5 := Lib.hid hr; have HK5 := Lib.hid (((Keep.refl (fun _ => False) wr).alloc _).trans hk5 (fun _ h => h.elim))
      clear hr hk5 hs5
      go_wp2_with fail
      refine (lim_write HF.out (by omega) hn HK5.out HR5.out).mono ?_
      rintro e w6 ⟨rfl, hF6⟩
      have HF6 := Lib.hid hF6
      clear hF6
      go_wp2
      go_roundw
      case rel => exact ⟨m + 1, by omega, by go_num, HF6.out⟩
      case measure => simp [intOf]; omega
    · obtain rfl : m = k := by omega
      by_cases hkn : n ≤ m
      all_goals
        go_wp2_with fail
        refine (lim_flush HF.out hn hk).mono ?_
        rintro e w7 ⟨rfl, D, hL⟩
        have HLF := Lib.hid hL
        clear hL
        go_wp2_with (at_make; go_loud (refine wpList_make_row rfl (.const (.int .i64 40)) (.const (.int .i64 40)) rfl Try.underlying36 hi0 hz0 hz1 hz2 40 rfl rfl rfl rfl (by omega) (by simp [maxLen]) ?mk))
        case mk =>
          intro w8 hr8 hk8 hs8
          have hr8' : Row w8 4 1 (.slice (some ⟨w7.heap.size, 0, none⟩) 40 40) 40 (trues 40 0) := by
            have e : (madeCells #[Value.bool false] 40).toList = trues 40 0 := by rw [toList_madeCells_one]; rfl
            rw [← e]; exact hr8
          have HR8 := Lib.hid hr8'
          have HK8 := Lib.hid hk8
          clear hr8 hr8' hk8 hs8
          go_wp2_with fail
          go_loopw [10] (fun i wr => ∃ j : Nat, j ≤ 40 ∧ i = .int .i64 j ∧ Row wr 4 1 (.slice (some ⟨w7.heap.size, 0, none⟩) 40 40) 40 (trues 40 j) ∧ Keep (fun _ => False) w7 wr) (fun i _ => 40 - (intOf i).toNat)
          case atStart => exact ⟨0, by omega, rfl, HR8.out, HK8.out⟩
          case round =>
            obtain ⟨j, hj, rfl, hrj, hkj⟩ := hrel
            have HRJ := Lib.hid hrj; have HKJ := Lib.hid hkj
            clear hrj hkj
            by_cases t2 : j < 40
            · have hth := HRJ.out.there j (by omega)
              simp only [Nat.zero_add] at hth
              obtain ⟨c1, hc1⟩ := Option.isSome_iff_exists.1 hth.1
              have f1 := hth.2
              have hst := HRJ.out.stored j (.bool true)
              rw [Nat.zero_add, trues_step _ _ t2] at hst
              have HST := Lib.hid hst
              clear hst hth
              go_wp2
              go_roundw
              case rel => exact ⟨j + 1, by omega, by go_num, HST.out, HKJ.out.setCell _ _ (.inr (Nat.le_refl _))⟩
              case measure => simp [intOf]; omega
            · obtain rfl : j = 40 := by omega
              obtain ⟨⟨vl9, vn9, vc9, hd9, hF9⟩, hk9, m1, m2, m3, m4, m5⟩ := HLF.out
              have HD9 := Lib.hid (hd9.keep HKJ.out (fun _ _ h => h))
              have M1 := Lib.hid m1; have M2 := Lib.hid m2; have M3 := Lib.hid m3; have M4 := Lib.hid m4; have M5 := Lib.hid m5
              have hse : Seen wr 1 (.slice (some ⟨w7.heap.size, 0, none⟩) 40 40) (List.replicate 40 true).length (bools (List.replicate 40 true)) := by
                have := HRJ.out.seen
                rw [trues_all] at this
                rw [List.length_replicate]; exact this
              have HSE := Lib.hid hse
              have HLT := Lib.hid (HRJ.out.lt (k := w7.heap.size) rfl)
              have HKA := Lib.hid (hk9.trans HKJ.out (fun _ h => h.elim))
              clear hd9 hF9 hk9 m1 m2 m3 m4 m5 hse
              go_wp2_with fail
              refine (crash_any HD9.out (by rw [M4.out]; omega) HSE.out (fun b hb _ => by simp [Value.ownBlock] at hb; subst hb; exact HLT.out)).mono ?_
              rintro e w10 ⟨q, ul, un, rfl, hd10, hk10, ho10⟩
              have HD10 := Lib.hid hd10; have HK10 := Lib.hid (HKA.out.trans hk10 (fun _ h => h.elim))
              have HD11 := Lib.hid (HD9.out.keep hk10 (fun _ _ h => h))
              clear hd10 hk10 ho10
              go_wp2_with fail
              go_loopw [12] (fun i wr => ∃ j : Nat, j ≤ 40 ∧ i = .int .i64 j ∧ Keep (fun _ => False) w10 wr) (fun i _ => 40 - (intOf i).toNat)
              case atStart => exact ⟨0, by omega, rfl, Keep.refl _ _⟩
              case round =>
                obtain ⟨j, hj, rfl, hkj⟩ := hrel
                have HK11 := Lib.hid hkj
                clear hkj
                by_cases t3 : j < 40
                · go_wp2_with fail
                  refine (read_sec (HD10.out.keep HK11.out (fun _ _ h => h)) j (by show j < (putAll _ _).length; rw [putAll_length, M4.out]; exact t3) _ (M5.out j t3)).mono ?_
                  rintro e w12 ⟨cap12, rfl, hr12, hk12, hs12⟩
                  have HK12 := Lib.hid (HK11.out.trans hk12 (fun _ h => h.elim))
                  by_cases t4 : j < min n m
                  · have c9 : w12.cell? ⟨wr.heap.size, 0, none⟩ = some (.int .u8 1) := by
                      have h1 := hr12.cellAt 0 (by omega)
                      rw [Nat.zero_add, limC_head, if_pos t4] at h1
                      exact h1
                    have t5 : decide (j < n) = true := by simp; omega
                    have t6 : decide (j < m) = true := by simp; omega
                    clear hr12 hk12 hs12
                    go_wp2
                    go_roundw
                    case rel => exact ⟨j + 1, by omega, by go_num, HK12.out⟩
                    case measure => simp [intOf]; omega
                  · have c9 : w12.cell? ⟨wr.heap.size, 0, none⟩ = some (.int .u8 0) := by
                      have h1 := hr12.cellAt 0 (by omega)
                      rw [Nat.zero_add, limC_head, if_neg t4] at h1
                      exact h1
                    have t5 : n ≤ m → decide (j < n) = false := by intro h; simp; omega
                    have t6 : ¬ n ≤ m → decide (j < m) = false := by intro h; simp; omega
                    first
                    | (have t5' := t5 hkn)
                    | (have t6' := t6 hkn)
                    clear hr12 hk12 hs12 t5 t6
                    go_wp2
                    go_roundw
                    case rel => exact ⟨j + 1, by omega, by go_num, HK12.out⟩
                    case measure => simp [intOf]; omega
                · have e1 : deadB D = decide (n ≤ m) := M2.out
                  have e2 : D.cache.length = if n ≤ m then n else 0 := M3.out
                  have e3 : D.writes = (min n m : Nat) := M1.out
                  first
                  | (simp only [hkn, decide_true, if_true] at e1 e2; rw [Nat.min_eq_left hkn] at e3)
                  | (simp only [hkn, decide_false, if_false] at e1 e2; rw [Nat.min_eq_right (by omega)] at e3)
                  have HDX := Lib.hid (HD11.out.keep HK11.out (fun _ _ h => h))
                  have E1 := Lib.hid e1; have E2 := Lib.hid e2; have E3 := Lib.hid e3
                  clear e1 e2 e3
                  go_wp2_with (first | (go_at_call 15; refine (dead_any HDX.out).mono ?_; rw [E1.out]; rintro e w' ⟨rfl, rfl⟩) | (go_at_call 13; refine (writes_any HDX.out).mono ?_; rw [E3.out]; rintro e w' ⟨rfl, rfl⟩) | (go_at_call 14; refine (waiting_any HDX.out).mono ?_; rw [E2.out]; rintro e w' ⟨rfl, rfl⟩))
                  go_ret
                  exact ⟨rfl, HK10.out.trans HK11.out (fun _ h => h.elim)⟩

theorem limit_all {w : World} (n k : Int) : Calls Try.prog 5 #[.int .i64 n, .int .i64 k] w fun e w' => e = .returned (.bool true) ∧ Keep (fun _ => False) w w' := by
  by_cases h : n < 0 ∨ 30 < n ∨ k < 0 ∨ 30 < k
  · exact limit_out n k h
  · obtain ⟨n, rfl⟩ := Int.eq_ofNat_of_zero_le (show 0 ≤ n by omega)
    obtain ⟨k, rfl⟩ := Int.eq_ofNat_of_zero_le (show 0 ≤ k by omega)
    exact limit_in n k (by omega) (by omega)

theorem Try.ownL : ownKnob Try.prog.godebug = none := by kernel_rfl

set_option maxRecDepth 100000 in
theorem limit_lifted (os : Os) (started : os.Started) (H : Type) (enc : TypeId × Value → H) :
    ReturnsInHanded {} Try.checked os 5 .any (Rows.diskLimitSpec.pre6 enc Try.prog Try.f5 Rows.diskLimitRow.domain false) (Rows.diskLimitSpec.post enc Try.prog Try.f5 false true false false) := by
  refine returnsInHanded_of_change (C := Try.checked) Try.ownL started (by kernel_rfl) Try.func5
    (ChangeSpec.witness6 (enc := enc) (C := Try.checked) false ⟨#[], #[.int .i64 0, .int .i64 0], []⟩ 8 (by kernel_rfl) (by kernel_rfl) (by kernel_rfl) (by kernel_rfl)) ?_
  intro W base args ds gs before hval0 hW hcnd _
  have hval : ∀ (j : Nat) t v, Try.f5.params[j]? = some t → args[j]? = some v → Value.okWide Try.prog W .any base t v := hval0
  have hW' := hW
  obtain ⟨p, q, hA0, hV, rfl, hfz, hnd⟩ := hW
  have hA : DataW.TrodAll enc Try.prog W 0 (fun _ => true) true Try.f5.params.toList args.toList ds p := hA0
  rw [Try.params5] at hA hval
  obtain ⟨v0, v1, d0, d1, p0, p1, rfl, rfl, rfl, h0, h1⟩ := trodAll_two hA
  obtain ⟨rfl, rfl⟩ := trodVars_none hV
  obtain ⟨n, rfl, rfl, rfl, w0⟩ := open_int Try.underlying3 (hval 0 3 v0 rfl rfl) h0
  obtain ⟨k, rfl, rfl, rfl, w1⟩ := open_int Try.underlying3 (hval 1 3 v1 rfl rfl) h1
  clear hA0 hval0
  simp only [List.append_nil] at hW'
  refine (limit_all n k).mono fun e W' ⟨he, hk⟩ => ?_
  subst he
  exact ⟨_, rfl, _, _, _, [], [], [], hW', trodAll_cons_mk (shut_bool Try.underlying4 _) trodAll_mk0, trodAll_mk2 (shut_int Try.underlying3 w0) (shut_int Try.underlying3 w1), rfl, hk.below0.frame _, fun h => by cases h⟩

theorem diskLimit_holds : Rows.DiskLimitSaid :=
  OpenClaim.holds_of_wide 5 Try.f5 rfl rfl rfl rfl rfl rfl rfl ⟨rfl, rfl, rfl, rfl, rfl⟩ rfl rfl rfl rfl rfl (by kernel_rfl) Try.func5 (by kernel_rfl)
    (of_decide_eq_true (by kernel_rfl)) (by unfold Func.isWrapper; first | (rw [if_pos (by decide +kernel)]; kernel_rfl) | (rw [if_neg (by decide +kernel)]; exact ⟨rfl, rfl⟩))
    (fun os started H enc _ => limit_lifted os started H enc)

end Go.Proofs.Yteonndghjiameaa
