/- DiskOrder answers true at every two slices: of writes of one sector that wait the last picked one lasts. -/
import Derived.Test.YteonndghjiameaaLawA
namespace Go.Proofs.Yteonndghjiameaa
open Go.ChangeShapes Go.WideShapes Go.ChangeAt Go.RowKit Go.Deep

/-- The disk behind writes of sector 1. -/
def ordD (D : Dk) (vs : List UInt8) : Dk := vs.foldl (fun D x => D.write 1 (secStr [x])) D

theorem ordD_snoc (D : Dk) (vs : List UInt8) (x : UInt8) : ordD D (vs ++ [x]) = (ordD D vs).write 1 (secStr [x]) := by simp [ordD]

theorem ordD_facts (vs : List UInt8) : ∀ D : Dk, D.lim = false → (ordD D vs).las = D.las ∧ (ordD D vs).lim = false ∧ (ordD D vs).left = D.left ∧ (ordD D vs).writes = D.writes + vs.length ∧ (ordD D vs).cache = D.cache ++ vs.map fun x => (1, secStr [x]) := by
  induction vs with
  | nil => intro D h; exact ⟨rfl, h, rfl, by simp [ordD], by simp [ordD]⟩
  | cons x vs ih =>
    intro D h
    obtain ⟨h1, h2, h3, h4, h5⟩ := ih (D.write 1 (secStr [x])) h
    refine ⟨h1, h2, ?_, ?_, ?_⟩
    · show (ordD (D.write 1 (secStr [x])) vs).left = D.left
      rw [h3]; simp [Dk.write, h]
    · show (ordD (D.write 1 (secStr [x])) vs).writes = _
      rw [h4]; simp [Dk.write]; omega
    · show (ordD (D.write 1 (secStr [x])) vs).cache = _
      rw [h5]; simp [Dk.write]

/-- The last value that was picked. -/
def wantOf : List UInt8 → List Bool → UInt8 → UInt8
  | x :: xs, b :: bs, v => wantOf xs bs (if b then x else v)
  | _, _, v => v

theorem wantOf_nil (xs : List UInt8) (v : UInt8) : wantOf xs [] v = v := by cases xs <;> rfl

theorem wantOf_step : ∀ (xs : List UInt8) (bs : List Bool) (v : UInt8) (k : Nat) (h : k < xs.length) (hb : k < bs.length), wantOf (xs.take (k + 1)) (bs.take (k + 1)) v = if bs[k] then xs[k] else wantOf (xs.take k) (bs.take k) v
  | x :: xs, b :: bs, v, 0, _, _ => by simp [wantOf]
  | x :: xs, b :: bs, v, k + 1, h, hb => by
    simp only [List.take_succ_cons, wantOf, List.getElem_cons_succ]
    exact wantOf_step xs bs _ k (by simpa using h) (by simpa using hb)

theorem wantOf_past : ∀ (xs : List UInt8) (bs : List Bool) (v : UInt8) (k : Nat), bs.length ≤ k → wantOf (xs.take (k + 1)) (bs.take (k + 1)) v = wantOf (xs.take k) (bs.take k) v
  | [], _, _, _, _ => by simp [wantOf]
  | x :: xs, [], v, k, _ => by simp [wantOf_nil]
  | x :: xs, b :: bs, v, 0, h => by simp at h
  | x :: xs, b :: bs, v, k + 1, h => by
    simp only [List.take_succ_cons, wantOf]
    exact wantOf_past xs bs _ k (by simpa using h)

theorem wantOf_take : ∀ (xs : List UInt8) (bs : List Bool) (v : UInt8), wantOf xs (bs.take xs.length) v = wantOf xs bs v
  | [], _, _ => by simp [wantOf]
  | x :: xs, [], v => by simp
  | x :: xs, b :: bs, v => by
    simp only [List.length_cons, List.take_succ_cons, wantOf]
    exact wantOf_take xs bs _

theorem order_val : ∀ (vs : List UInt8) (bs : List Bool) (v : UInt8) (l : List ByteArray), 1 < l.length → l.getD 1 default = secStr [v] → (putAll l (pick (vs.map fun x => (1, secStr [x])) bs)).getD 1 default = secStr [wantOf vs bs v]
  | [], bs, v, l, _, h => by simpa [pick, putAll, wantOf] using h
  | x :: vs, [], v, l, _, h => by simpa [pick_nil, putAll, wantOf] using h
  | x :: vs, b :: bs, v, l, hl, h => by
    simp only [List.map_cons, pick, wantOf]
    cases b
    · exact order_val vs bs v l hl h
    · have := order_val vs bs x (l.set 1 (secStr [x])) (by simpa using hl) (by rw [List.getD_eq_getElem?_getD, List.getElem?_set_self hl]; rfl)
      simpa [putAll] using this

/-- The disk before the loop. -/
def Dk.ord0 : Dk := ((Dk.fresh (List.replicate 3 zeroSec)).write 1 (secStr [200])).flush

theorem ord0_facts : Dk.ord0.lim = false ∧ Dk.ord0.left = 0 ∧ Dk.ord0.writes = 1 ∧ Dk.ord0.cache = [] ∧ Dk.ord0.las.length = 3 ∧ Dk.ord0.las.getD 1 default = secStr [200] := ⟨rfl, rfl, rfl, rfl, rfl, rfl⟩

/-- The world behind k rounds. -/
def OrdAt (w : World) (p : Nat) (vals : List UInt8) (k : Nat) (wr : World) : Prop := Disk wr (fun b => w.heap.size ≤ b) p (ordD Dk.ord0 (vals.take k)) ∧ Keep (fun _ => False) w wr

theorem ord_len (vals : List UInt8) : (ordD Dk.ord0 vals).las.length = 3 := by rw [(ordD_facts vals _ ord0_facts.1).1]; rfl

/-- Full, then a write of sector 1, in whatever order the disk stands. -/
theorem ord_write {w wr w2 : World} {p : Nat} {vals : List UInt8} {k : Nat} (h : OrdAt w p vals k wr) (hk : k < vals.length) (h20 : k < 20) (hk2 : Keep (fun _ => False) wr w2) {g : Nat}
    (hr : Row w2 5 1 (.slice (some ⟨g, 0, none⟩) 512 512) 512 (bcells (secOf 512 [vals[k]]))) :
    Calls Try.prog 11 #[.pointer (some ⟨p, 0, none⟩), .int .i64 1, .slice (some ⟨g, 0, none⟩) 512 512] w2 fun e w' => e = .returned .nilIface ∧ OrdAt w p vals (k + 1) w' := by
  obtain ⟨⟨vl, vn, vc, hd, hF⟩, hkw⟩ := h
  have hd2 := hd.keep hk2 (fun _ _ h => h)
  obtain ⟨f1, f2, f3, f4, f5⟩ := ordD_facts (vals.take k) _ ord0_facts.1
  have hl : (vals.take k).length = k := by simp; omega
  refine (write_alive hd2 1 (by rw [ord_len]; omega) g 0 512 (secOf 512 [vals[k]]) (secOf_length _ _) (bytesAt_row hr) (by simp [deadB, f2]) (by rw [f4, hl, ord0_facts.2.2.1]; omega) (by rw [f3, ord0_facts.2.1]; omega) (by rw [f5, ord0_facts.2.2.2.1]; simp; omega)).mono ?_
  rintro e w' ⟨rfl, hD, hK⟩
  refine ⟨rfl, ?_, (hkw.trans hk2 (fun _ h => h.elim)).trans hK (fun b hb => .inr (hF b hb))⟩
  rw [List.take_succ_eq_append_getElem hk, ordD_snoc]
  have hs := hkw.size
  have hs2 := hk2.size
  exact hD.mono (fun b hb => by
    rcases hb with hb | hb
    · exact hF b hb
    · omega)

/-- Behind all rounds: the crash, and what is read. -/
theorem ord_end {w wr : World} {p : Nat} {vals : List UInt8} {k : Nat} (h : OrdAt w p vals k wr) : ∃ vl vn vc, IsDisk wr p vl vn vc (ordD Dk.ord0 (vals.take k)) := by
  obtain ⟨⟨vl, vn, vc, hd, _⟩, _⟩ := h
  exact ⟨vl, vn, vc, hd⟩

theorem ord_sector (vals : List UInt8) (bs : List Bool) : ((ordD Dk.ord0 vals).crash bs).new.getD 1 default = secStr [wantOf vals bs 200] := by
  obtain ⟨f1, f2, f3, f4, f5⟩ := ordD_facts vals _ ord0_facts.1
  simp only [Dk.crash, Dk.fresh]
  rw [f1, f5, ord0_facts.2.2.2.1, List.nil_append]
  exact order_val vals bs 200 _ (by rw [ord0_facts.2.2.2.2.1]; omega) ord0_facts.2.2.2.2.2

set_option maxHeartbeats 2000000 in
set_option maxRecDepth 100000 in
theorem order_any {w : World} {va vp : Value} {vals : List UInt8} {bs : List Bool} (ha : Seen w 1 va vals.length (bcells vals)) (hp : Seen w 1 vp bs.length (bools bs)) (hbp : ∀ b, vp.ownBlock = some b → 0 < bs.length → b < w.heap.size) :
    Calls Try.prog 4 #[va, vp] w fun e w' => e = .returned (.bool true) ∧ Keep (fun _ => False) w w' := by
  have HA := Lib.hid ha
  have HP := Lib.hid hp
  have HBP := Lib.hid hbp
  obtain ⟨_, aa, capa, rfl, hac, ham, _⟩ := ha
  obtain ⟨_, ap, capp, rfl, hpc, hpm, _⟩ := hp
  unfold maxLen at ham hpm
  clear hbp
  go_enter Try.func4, Try.ntmps4
  go_wp2_with fail
  refine begun_any.mono ?_
  rintro e w0 ⟨rfl, hk0⟩
  have HK0 := Lib.hid hk0
  clear hk0
  go_wp2_with fail
  refine (new_any 3 (by omega) (by omega)).mono ?_
  rintro e w1 ⟨p, vl, vn, rfl, hd, hk, ho⟩
  have HD := Lib.hid hd; have HK := Lib.hid (HK0.out.trans hk (fun _ h => h.elim)); have HO := Lib.hid ho
  have HS0 := Lib.hid HK0.out.size
  clear hd hk ho
  go_wp2_with fail
  refine (full_any (l := [200]) (Row.made #[Value.int .u8 200] _ 1 rfl (by simp [maxLen]) rfl).seen (by simp [Value.ownBlock])).mono ?_
  rintro e w2 ⟨rfl, hr, hk2, hs2⟩
  simp only [World.size_alloc] at hr hs2
  have HR := Lib.hid hr; have HK2 := Lib.hid (((Keep.refl (fun _ => False) w1).alloc _).trans hk2 (fun _ h => h.elim))
  have HD2 := Lib.hid (HD.out.keep HK2.out (fun _ _ h => h))
  clear hr hk2 hs2
  go_wp2_with fail
  refine (write_alive HD2.out 1 (by simp [Dk.fresh]) _ 0 512 (secOf 512 [200]) (secOf_length _ _) (bytesAt_row HR.out) rfl ⟨by simp [Dk.fresh], by simp [Dk.fresh]⟩ ⟨by simp [Dk.fresh], by simp [Dk.fresh]⟩ (by simp [Dk.fresh])).mono ?_
  rintro e w3 ⟨rfl, ⟨vl3, vn3, vc3, hd3, hF3⟩, hk3⟩
  have HD3 : Hid (IsDisk w3 p vl3 vn3 vc3 ((Dk.fresh (List.replicate 3 zeroSec)).write 1 (secStr [200]))) := Lib.hid hd3
  have HF3 := Lib.hid hF3; have HK3 := Lib.hid hk3
  clear hd3 hF3 hk3
  go_wp2_with fail
  refine (flush_any HD3.out rfl).mono ?_
  rintro e w4 ⟨rfl, hd4, hk4⟩
  have s0 := HS0.out
  have s1 := HK.out.size
  have s2 := HK2.out.size
  have hF4 : ∀ b, diskOf p vl3 vn3 vc3 b → w.heap.size ≤ b := fun b hb => by
    rcases HF3.out b hb with h | h
    · have := (HO.out b h).1; omega
    · omega
  have H0 : OrdAt w p vals 0 w4 := by
    refine ⟨⟨vl3, vn3, _, hd4, fun b hb => ?_⟩, ((HK.out.trans HK2.out (fun _ h => h.elim)).trans HK3.out (fun b hb => .inr (by have := (HO.out b hb).1; omega))).trans hk4 (fun b hb => .inr (hF4 b hb))⟩
    rcases hb with hb | hb | hb | hb
    · exact hF4 b (.inl hb)
    · exact hF4 b (.inr (.inl hb))
    · exact hF4 b (.inr (.inr (.inl hb)))
    · simp [Value.ownBlock] at hb
  have H0' := Lib.hid H0
  clear H0 hF4 hd4 hk4 s0 s1 s2
  go_wp2_with fail
  go_loopw [7, 8] (fun v i wr => ∃ k : Nat, k ≤ vals.length ∧ k ≤ 20 ∧ i = .int .i64 k ∧ v = .int .u8 ((wantOf (vals.take k) (bs.take k) 200).toNat : Int) ∧ OrdAt w p vals k wr) (fun _ i _ => 20 - (intOf i).toNat)
  case atStart => exact ⟨0, by omega, by omega, rfl, by simp [wantOf], H0'.out⟩
  case round =>
    obtain ⟨k, hk1, hk2, rfl, rfl, hF⟩ := hrel
    have HF := Lib.hid hF
    clear hF
    by_cases tt : k < vals.length ∧ k < 20
    · obtain ⟨t1, t2⟩ := tt
      · have hsa := HA.out.keep HF.out.2 (fun _ _ _ h => h)
        obtain ⟨_, _, _, hv, _, _, hc⟩ := hsa
        simp only [Value.slice.injEq] at hv
        obtain ⟨rfl, _, rfl⟩ := hv
        obtain ⟨ga, oa, rfl, hga, hca⟩ := hc.resolve_left (by omega)
        have c0 : wr.cell? ⟨ga, oa + k, none⟩ = some (.int .u8 (vals[k].toNat : Int)) := hca k _ (by simp [bcells, List.getElem?_eq_getElem t1])
        clear hc hca
        go_wp2_with fail
        refine (full_any (l := [vals[k]]) (Row.made #[Value.int .u8 (vals[k].toNat : Int)] _ 1 rfl (by simp [maxLen]) rfl).seen (by simp [Value.ownBlock])).mono ?_
        rintro e w5 ⟨rfl, hr, hk5, hs5⟩
        simp only [World.size_alloc] at hr hs5
        have HR5 := Lib.hid hr; have HK5 := Lib.hid (((Keep.refl (fun _ => False) wr).alloc _).trans hk5 (fun _ h => h.elim))
        clear hr hk5 hs5 c0
        go_wp2_with fail
        refine (ord_write HF.out t1 t2 HK5.out HR5.out).mono ?_
        rintro e w6 ⟨rfl, hF6⟩
        have HF6 := Lib.hid hF6
        have hsa := HA.out.keep hF6.2 (fun _ _ _ h => h)
        obtain ⟨_, _, _, hv, _, _, hc⟩ := hsa
        simp only [Value.slice.injEq] at hv
        obtain ⟨hv, _, rfl⟩ := hv
        obtain ⟨ga', oa', hg', _, hca⟩ := hc.resolve_left (by omega)
        rw [hg'] at hv
        simp only [Option.some.injEq, Addr.mk.injEq, and_true] at hv
        obtain ⟨rfl, rfl⟩ := hv
        have c0 : w6.cell? ⟨ga, oa + k, none⟩ = some (.int .u8 (vals[k].toNat : Int)) := hca k _ (by simp [bcells, List.getElem?_eq_getElem t1])
        have hsp := HP.out.keep hF6.2 (fun _ _ _ h => h)
        clear hc hca hg' hF6
        by_cases t3 : k < bs.length
        · obtain ⟨_, _, _, hv, _, _, hc⟩ := hsp
          simp only [Value.slice.injEq] at hv
          obtain ⟨rfl, _, rfl⟩ := hv
          obtain ⟨gp, op, rfl, hgp, hcp⟩ := hc.resolve_left (by omega)
          have c1 : w6.cell? ⟨gp, op + k, none⟩ = some (.bool bs[k]) := hcp k _ (by simp [bools, List.getElem?_eq_getElem t3])
          have hws := wantOf_step vals bs 200 k t1 t3
          generalize hbk : bs[k] = bk at *
          have HW := Lib.hid hws
          clear hc hcp hws hbk
          cases bk
          · go_wp2
            go_roundw
            case rel => exact ⟨k + 1, by omega, by omega, by go_num, by rw [HW.out]; rfl, HF6.out⟩
            case measure => simp [intOf]; omega
          · go_wp2
            go_roundw
            case rel => exact ⟨k + 1, by omega, by omega, by go_num, by rw [HW.out]; rfl, HF6.out⟩
            case measure => simp [intOf]; omega
        · have HW := Lib.hid (wantOf_past vals bs 200 k (by omega))
          clear hsp
          go_wp2
          go_roundw
          case rel => exact ⟨k + 1, by omega, by omega, by go_num, by rw [HW.out], HF6.out⟩
          case measure => simp [intOf]; omega
    · obtain ⟨vl9, vn9, vc9, hd9⟩ := ord_end HF.out
      have HD9 := Lib.hid hd9
      have hcr : wantOf (vals.take k) (bs.take k) 200 = wantOf (vals.take k) bs 200 := by
        have := wantOf_take (vals.take k) bs 200
        rwa [List.length_take, Nat.min_eq_left hk1] at this
      have HCR := Lib.hid hcr
      have HPR := Lib.hid (HP.out.keep HF.out.2 (fun _ _ _ h => h))
      have HSZ := Lib.hid HF.out.2.size
      have HSEC := Lib.hid (ord_sector (vals.take k) bs)
      have HLEN := Lib.hid (ord_len (vals.take k))
      have hcase : (¬ k < vals.length) ∨ (k < vals.length ∧ ¬ k < 20) := by omega
      clear hd9 hcr tt
      rcases hcase with t1 | ⟨t1, t2⟩
      all_goals
        go_wp2_with fail
        refine (crash_any HD9.out (by rw [HLEN.out]; omega) (bs := bs) HPR.out (fun b hb h0 => Nat.lt_of_lt_of_le (HBP.out b hb h0) HSZ.out)).mono ?_
        rintro e w10 ⟨q, ul, un, rfl, hd10, hk10, ho10⟩
        have HD10 := Lib.hid hd10; have HK10 := Lib.hid hk10
        clear hd10 hk10 ho10
        go_wp2_with fail
        refine (read_sec HD10.out 1 (by show 1 < (putAll _ _).length; rw [putAll_length, HLEN.out]; omega) _ HSEC.out).mono ?_
        rintro e w11 ⟨cap11, rfl, hr11, hk11, hs11⟩
        have HK11 := Lib.hid hk11
        have c9 : w11.cell? ⟨w10.heap.size, 0, none⟩ = some (.int .u8 ((wantOf (vals.take k) (bs.take k) 200).toNat : Int)) := by
          have h1 := hr11.cellAt 0 (by omega)
          rw [Nat.zero_add, byteCells_sec, bcells, List.getElem?_map, secOf_head _ _ _ (by omega)] at h1
          rw [HCR.out]
          exact h1
        clear hr11 hk11 hs11
        go_wp2
        go_ret
        exact ⟨rfl, (HF.out.2.trans HK10.out (fun _ h => h.elim)).trans HK11.out (fun _ h => h.elim)⟩

theorem Try.ownO : ownKnob Try.prog.godebug = none := by kernel_rfl
theorem Try.laidOutO : laidOutB Try.prog = true := by kernel_rfl
theorem Try.cellsB : Try.prog.cellsOf 5 = 1 := by kernel_rfl
theorem Try.cellsBool : Try.prog.cellsOf 4 = 1 := by kernel_rfl

/-- A []byte among the arguments. -/
theorem arg_bytes {H : Type} {enc : TypeId × Value → H} {W : World} {v : Value} {d : DataW H} {ps : List MemPlace} {base : Nat} (hv : Value.okWide Try.prog W .any base 23 v) (h : DataW.Trod enc Try.prog W 0 (fun _ => true) true 23 v d ps) :
    ∃ l : List UInt8, Seen W 1 v l.length (bcells l) ∧ (∀ b, v.ownBlock = some b → 0 < l.length → b < W.heap.size) := by
  obtain ⟨a0, len, cap, rfl⟩ := okWide_slice Try.underlying23 hv
  obtain ⟨fuel, hf⟩ := h
  rcases open_ints Try.underlying23 Try.underlying5 Try.cellsB hf with ⟨hcs, hx⟩ | ⟨a, len', cap', zs, hcs, _, hl, hm, hz, hx, hc, hw⟩
  · simp [Value.cells] at hcs
    obtain ⟨rfl, rfl, rfl⟩ := hcs
    exact ⟨[], Seen.nil _ _, fun b hb => by simp [Value.ownBlock] at hb⟩
  · simp [Value.cells] at hcs
    obtain ⟨rfl, rfl, rfl⟩ := hcs
    obtain ⟨l, rfl, h2, h3⟩ := seen_bytes hl hm (by simpa using hz) hc hw
    exact ⟨l, h2, fun b hb h0 => by simp [Value.ownBlock] at hb; subst hb; exact h3 h0⟩

/-- A []bool among the arguments. -/
theorem arg_bools {H : Type} {enc : TypeId × Value → H} {W : World} {v : Value} {d : DataW H} {ps : List MemPlace} {base : Nat} (hv : Value.okWide Try.prog W .any base 36 v) (h : DataW.Trod enc Try.prog W 0 (fun _ => true) true 36 v d ps) :
    ∃ l : List Bool, Seen W 1 v l.length (bools l) ∧ (∀ b, v.ownBlock = some b → 0 < l.length → b < W.heap.size) := by
  obtain ⟨a0, len, cap, rfl⟩ := okWide_slice Try.underlying36 hv
  obtain ⟨fuel, hf⟩ := h
  rcases open_bools Try.underlying36 Try.underlying4 Try.cellsBool hf with ⟨hcs, hx⟩ | ⟨a, len', cap', B, hcs, _, hl, hm, hx, hc⟩
  · simp [Value.cells] at hcs
    obtain ⟨rfl, rfl, rfl⟩ := hcs
    exact ⟨[], Seen.nil _ _, fun b hb => by simp [Value.ownBlock] at hb⟩
  · simp [Value.cells] at hcs
    obtain ⟨rfl, rfl, rfl⟩ := hcs
    obtain ⟨h2, h3⟩ := seen_bools hl hm hc
    exact ⟨(List.range len).map B, by simpa using h2, fun b hb h0 => by simp [Value.ownBlock] at hb; subst hb; exact h3 (by simpa using h0)⟩

set_option maxRecDepth 100000 in
theorem order_lifted (os : Os) (started : os.Started) (H : Type) (enc : TypeId × Value → H) :
    ReturnsInHanded {} Try.checked os 4 .any (Rows.diskOrderSpec.pre6 enc Try.prog Try.f4 Rows.diskOrderRow.domain false) (Rows.diskOrderSpec.post enc Try.prog Try.f4 false true false false) := by
  refine returnsInHanded_of_change (C := Try.checked) Try.ownO started (by kernel_rfl) Try.func4
    (ChangeSpec.witness6 (enc := enc) (C := Try.checked) false ⟨#[], #[.slice none 0 0, .slice none 0 0], []⟩ 8 (by kernel_rfl) (by kernel_rfl) (by kernel_rfl) (by kernel_rfl)) ?_
  intro W base args ds gs before hval0 hW hcnd _
  have hval : ∀ (j : Nat) t v, Try.f4.params[j]? = some t → args[j]? = some v → Value.okWide Try.prog W .any base t v := hval0
  have hW' := hW
  obtain ⟨p, q, hA0, hV, rfl, hfz, hnd⟩ := hW
  have hA : DataW.TrodAll enc Try.prog W 0 (fun _ => true) true Try.f4.params.toList args.toList ds p := hA0
  have hA1 := hA
  rw [Try.params4] at hA hval
  obtain ⟨v0, v1, d0, d1, p0, p1, rfl, rfl, rfl, h0, h1⟩ := trodAll_two hA
  obtain ⟨rfl, rfl⟩ := trodVars_none hV
  obtain ⟨vals, hs0, _⟩ := arg_bytes (hval 0 23 v0 rfl rfl) h0
  obtain ⟨bs, hs1, hb1⟩ := arg_bools (hval 1 36 v1 rfl rfl) h1
  have hlt : ∀ x ∈ p0 ++ p1, x.block < W.heap.size := fun x hx => hW'.lt x (List.mem_append_left _ hx)
  clear hA0 hval0
  refine (order_any hs0 hs1 hb1).mono fun e W' ⟨he, hk⟩ => ?_
  subst he
  refine ⟨_, rfl, _, _, _, [], p0 ++ p1, [], hW', trodAll_cons_mk (shut_bool Try.underlying4 _) trodAll_mk0, ?_, rfl, hk.below0.frame _, fun h => by cases h⟩
  refine trodAll_stays Try.laidOutO hk.below0 _ (fun t ht => ?_) _ _ _ hA1 hlt
  rw [Try.params4] at ht
  simp only [List.mem_cons, List.not_mem_nil, or_false] at ht
  rcases ht with rfl | rfl <;> exact ⟨by kernel_rfl, of_decide_eq_true (by kernel_rfl)⟩

theorem diskOrder_holds : Rows.DiskOrderSaid :=
  OpenClaim.holds_of_wide 4 Try.f4 rfl rfl rfl rfl rfl rfl rfl ⟨rfl, rfl, rfl, rfl, rfl⟩ rfl rfl rfl rfl rfl (by kernel_rfl) Try.func4 (by kernel_rfl)
    (of_decide_eq_true (by kernel_rfl)) (by unfold Func.isWrapper; first | (rw [if_pos (by decide +kernel)]; kernel_rfl) | (rw [if_neg (by decide +kernel)]; exact ⟨rfl, rfl⟩))
    (fun os started H enc _ => order_lifted os started H enc)

end Go.Proofs.Yteonndghjiameaa
