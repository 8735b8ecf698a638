/- World files: the law's Eq, of the same tables twice (made by tools/gendcx.py). -/
import Derived.Test.YtcodbomgodkcmaaGreatDoorDcU
import Derived.Laws.StructEq
import Derived.ChangeKeysEq
namespace Go.Proofs.YtcodbomgodkcmaaGreatDoor.Wd
open Go.RowKit Go.Maps Go.Proofs.YtcodbomgodkcmaaGreatDoor Go.Proofs.YtcodbomgodkcmaaGreatDoor.Lin
set_option maxRecDepth 100000

theorem eqI_int (d : Nat) (a : Int) (w : World) : (Op.equalIn (d + 1) 3 (.int .i64 a) (.int .i64 a)).run Tryz.prog w = .ok true w := by
  rw [run_equalIn_int w d 3 .i64 .i64 a a Tryz.underlying3]; simp
theorem eqI_int64 (d : Nat) (a : Int) (w : World) : (Op.equalIn (d + 1) 2 (.int .i64 a) (.int .i64 a)).run Tryz.prog w = .ok true w := by
  rw [run_equalIn_int w d 2 .i64 .i64 a a Tryz.underlying2]; simp
theorem eqI_str (d : Nat) (s : ByteArray) (w : World) : (Op.equalIn (d + 1) 9 (.string s) (.string s)).run Tryz.prog w = .ok true w := by
  rw [run_equalIn_string w d 9 s s Tryz.underlying9]; simp
theorem eqF_cons (d : Nat) (xs ys : Array Value) (f : Field) (fs : List Field) (a b : Value) (w : World) (hn : f.name ≠ "_") (ha : (part f.type xs f.offset).run Tryz.prog w = .ok a w) (hb : (part f.type ys f.offset).run Tryz.prog w = .ok b w) (he : (Op.equalIn d f.type a b).run Tryz.prog w = .ok true w) (h : (Op.eqFields d xs ys fs).run Tryz.prog w = .ok true w) :
    (Op.eqFields d xs ys (f :: fs)).run Tryz.prog w = .ok true w := by
  simp only [Op.eqFields, if_pos hn, Sem.run_bind, ha, hb, he, Result.andThen_ok]
  simpa using h
theorem eqF_nil (d : Nat) (xs ys : Array Value) (w : World) : (Op.eqFields d xs ys []).run Tryz.prog w = .ok true w := rfl
theorem eqT_cons (d : Nat) (e : TypeId) (sz : Nat) (xs ys : Array Value) (i : Nat) (is : List Nat) (a b : Value) (w : World) (ha : (part e xs (i * sz)).run Tryz.prog w = .ok a w) (hb : (part e ys (i * sz)).run Tryz.prog w = .ok b w) (he : (Op.equalIn d e a b).run Tryz.prog w = .ok true w) (h : (Op.eqItems d e sz xs ys is).run Tryz.prog w = .ok true w) :
    (Op.eqItems d e sz xs ys (i :: is)).run Tryz.prog w = .ok true w := by
  simp only [Op.eqItems, Sem.run_bind, ha, hb, he, Result.andThen_ok]
  simpa using h
theorem eqI_six (d : Nat) (a b c e f g : Int) (w : World) : (Op.equalIn (d + 2) 51 (.agg #[.int .i64 a, .int .i64 b, .int .i64 c, .int .i64 e, .int .i64 f, .int .i64 g]) (.agg #[.int .i64 a, .int .i64 b, .int .i64 c, .int .i64 e, .int .i64 f, .int .i64 g])).run Tryz.prog w = .ok true w := by
  obtain ⟨i, hi⟩ : ∃ i, Tryz.prog.info? 3 = some i := Option.isSome_iff_exists.1 (by kernel_rfl)
  rw [run_equalIn_array w (d + 1) _ _ Tryz.underlying51 hi]
  rw [show Tryz.prog.cellsOf 3 = 1 by kernel_rfl, show List.range 6 = [0, 1, 2, 3, 4, 5] from rfl]
  refine eqT_cons _ _ _ _ _ _ _ _ _ _ (by rfl) (by rfl) (eqI_int _ _ _) ?_
  refine eqT_cons _ _ _ _ _ _ _ _ _ _ (by rfl) (by rfl) (eqI_int _ _ _) ?_
  refine eqT_cons _ _ _ _ _ _ _ _ _ _ (by rfl) (by rfl) (eqI_int _ _ _) ?_
  refine eqT_cons _ _ _ _ _ _ _ _ _ _ (by rfl) (by rfl) (eqI_int _ _ _) ?_
  refine eqT_cons _ _ _ _ _ _ _ _ _ _ (by rfl) (by rfl) (eqI_int _ _ _) ?_
  refine eqT_cons _ _ _ _ _ _ _ _ _ _ (by rfl) (by rfl) (eqI_int _ _ _) ?_
  rfl
theorem neRoom (x : RoomM) (w : World) : (binOp .neq 53 (.agg (roomC x).toArray) (.agg (roomC x).toArray)).run Tryz.prog w = .ok (.bool false) w := by
  rw [run_neq_struct, run_equalIn_agg w 9999 53 _ _ (by kernel_rfl) (by kernel_rfl)]
  simp only [Program.fieldsOf, Tryz.underlying53]
  have h : ∀ r : Result Bool, r = .ok true w → (r.andThen fun b w' => Result.ok (Value.bool !b) w') = Result.ok (Value.bool false) w := fun r h => by rw [h]; rfl
  refine h _ ?_
  refine eqF_cons _ _ _ _ _ _ _ _ (by decide) (by rfl) (by rfl) (eqI_int _ _ _) ?_
  refine eqF_cons _ _ _ _ _ _ _ _ (by decide) (by rfl) (by rfl) (eqI_str _ _ _) ?_
  refine eqF_cons _ _ _ _ _ _ _ _ (by decide) (by rfl) (by rfl) (eqI_int _ _ _) ?_
  refine eqF_cons _ _ _ _ _ _ _ _ (by decide) (by rfl) (by rfl) (eqI_int64 _ _ _) ?_
  refine eqF_cons _ _ _ _ _ _ _ _ (by decide) (by rfl) (by rfl) (eqI_six _ _ _ _ _ _ _ _) ?_
  exact eqF_nil _ _ _ _
theorem neProto (x : ProtoM) (w : World) : (binOp .neq 78 (.agg (protoC x).toArray) (.agg (protoC x).toArray)).run Tryz.prog w = .ok (.bool false) w := by
  rw [run_neq_struct, run_equalIn_agg w 9999 78 _ _ (by kernel_rfl) (by kernel_rfl)]
  simp only [Program.fieldsOf, Tryz.underlying78]
  have h : ∀ r : Result Bool, r = .ok true w → (r.andThen fun b w' => Result.ok (Value.bool !b) w') = Result.ok (Value.bool false) w := fun r h => by rw [h]; rfl
  refine h _ ?_
  refine eqF_cons _ _ _ _ _ _ _ _ (by decide) (by rfl) (by rfl) (eqI_int _ _ _) ?_
  refine eqF_cons _ _ _ _ _ _ _ _ (by decide) (by rfl) (by rfl) (eqI_str _ _ _) ?_
  refine eqF_cons _ _ _ _ _ _ _ _ (by decide) (by rfl) (by rfl) (eqI_int _ _ _) ?_
  refine eqF_cons _ _ _ _ _ _ _ _ (by decide) (by rfl) (by rfl) (eqI_int64 _ _ _) ?_
  refine eqF_cons _ _ _ _ _ _ _ _ (by decide) (by rfl) (by rfl) (eqI_int64 _ _ _) ?_
  exact eqF_nil _ _ _ _
theorem neMobProto (x : MobPM) (w : World) : (binOp .neq 80 (.agg (mobpC x).toArray) (.agg (mobpC x).toArray)).run Tryz.prog w = .ok (.bool false) w := by
  rw [run_neq_struct, run_equalIn_agg w 9999 80 _ _ (by kernel_rfl) (by kernel_rfl)]
  simp only [Program.fieldsOf, Tryz.underlying80]
  have h : ∀ r : Result Bool, r = .ok true w → (r.andThen fun b w' => Result.ok (Value.bool !b) w') = Result.ok (Value.bool false) w := fun r h => by rw [h]; rfl
  refine h _ ?_
  refine eqF_cons _ _ _ _ _ _ _ _ (by decide) (by rfl) (by rfl) (eqI_int _ _ _) ?_
  refine eqF_cons _ _ _ _ _ _ _ _ (by decide) (by rfl) (by rfl) (eqI_str _ _ _) ?_
  refine eqF_cons _ _ _ _ _ _ _ _ (by decide) (by rfl) (by rfl) (eqI_int _ _ _) ?_
  refine eqF_cons _ _ _ _ _ _ _ _ (by decide) (by rfl) (by rfl) (eqI_int64 _ _ _) ?_
  refine eqF_cons _ _ _ _ _ _ _ _ (by decide) (by rfl) (by rfl) (eqI_int64 _ _ _) ?_
  refine eqF_cons _ _ _ _ _ _ _ _ (by decide) (by rfl) (by rfl) (eqI_int64 _ _ _) ?_
  refine eqF_cons _ _ _ _ _ _ _ _ (by decide) (by rfl) (by rfl) (eqI_int64 _ _ _) ?_
  exact eqF_nil _ _ _ _
theorem neQuest (x : QuestM) (w : World) : (binOp .neq 86 (.agg (questC x).toArray) (.agg (questC x).toArray)).run Tryz.prog w = .ok (.bool false) w := by
  rw [run_neq_struct, run_equalIn_agg w 9999 86 _ _ (by kernel_rfl) (by kernel_rfl)]
  simp only [Program.fieldsOf, Tryz.underlying86]
  have h : ∀ r : Result Bool, r = .ok true w → (r.andThen fun b w' => Result.ok (Value.bool !b) w') = Result.ok (Value.bool false) w := fun r h => by rw [h]; rfl
  refine h _ ?_
  refine eqF_cons _ _ _ _ _ _ _ _ (by decide) (by rfl) (by rfl) (eqI_int _ _ _) ?_
  refine eqF_cons _ _ _ _ _ _ _ _ (by decide) (by rfl) (by rfl) (eqI_int _ _ _) ?_
  refine eqF_cons _ _ _ _ _ _ _ _ (by decide) (by rfl) (by rfl) (eqI_int _ _ _) ?_
  refine eqF_cons _ _ _ _ _ _ _ _ (by decide) (by rfl) (by rfl) (eqI_int64 _ _ _) ?_
  refine eqF_cons _ _ _ _ _ _ _ _ (by decide) (by rfl) (by rfl) (eqI_int _ _ _) ?_
  exact eqF_nil _ _ _ _

theorem keepQ (w : World) (n : Nat) : Keep (fun _ => False) w (w.drewN n) := ⟨rfl, rfl, rfl, Nat.le_refl _, fun _ _ _ => rfl⟩
structure InR (n : Nat) (w : World) (iv : Value) (wr : World) : Prop where
  ex : ∃ k m : Nat, k ≤ n ∧ iv = .int .i64 (k : Int) ∧ wr = w.drewN m
theorem ints_same {w : World} {v1 v2 : Value} {l : List Int} (h1 : Ints w v1 l) (h2 : Ints w v2 l) : Calls Tryz.prog 33 #[v1, v2] w fun e w' => e = .returned (.bool true) ∧ ∃ m, w' = w.drewN m := by
  obtain ⟨_, a1, c1, rfl, hc1, hc2, q1⟩ := h1.1
  obtain ⟨_, a2, c2, rfl, hd1, hd2, q2⟩ := h2.1
  unfold maxLen at hc2 hd2
  have H1 := Lib.hid q1; have H2 := Lib.hid q2
  clear h1 h2 q1 q2
  go_enter Tryz.func33, Tryz.ntmps33
  go_wp2
  go_loopw [5] (fun iv wr => InR l.length w iv wr) (fun iv _ => l.length - (intOf iv).toNat)
  case atStart => exact ⟨0, 0, by omega, rfl, rfl⟩
  case round =>
    obtain ⟨k, m, hk, rfl, hw⟩ := hrel.ex
    have HW := Lib.hid hw
    clear hrel
    by_cases hlt : k < l.length
    · have hd : decide (k < l.length) = true := by simpa using hlt
      obtain ⟨x, hx⟩ : ∃ x, l[k]? = some x := ⟨_, List.getElem?_eq_getElem hlt⟩
      obtain ⟨g1, o1, rfl, hg1, r1⟩ := H1.out.resolve_left (by omega)
      obtain ⟨g2, o2, rfl, hg2, r2⟩ := H2.out.resolve_left (by omega)
      have c1' : wr.cell? ⟨g1, o1 + k, none⟩ = some (.int .i64 x) := by rw [hw]; exact r1 k _ (icells_get hx)
      have c2' : wr.cell? ⟨g2, o2 + k, none⟩ = some (.int .i64 x) := by rw [hw]; exact r2 k _ (icells_get hx)
      clear hw hx r1 r2
      go_wp2
      go_quiet (fail)
      go_wp2
      go_roundw
      case rel => exact ⟨k + 1, m + nq, by omega, by go_num, by rw [HW.out, World.drewN_drewN]⟩
      case measure => simp [intOf]; omega
    · have hd : decide (k < l.length) = false := by simpa using hlt
      clear hw
      go_wp2
      go_ret
      exact ⟨rfl, m, HW.out⟩
structure ELo (n : Nat) (w : World) (iv : Value) (wr : World) : Prop where
  ex : ∃ k : Nat, k ≤ n ∧ iv = .int .i64 (k : Int) ∧ Keep (fun _ => False) w wr
set_option maxHeartbeats 16000000 in
theorem eq_same {w : World} {P1 P2 : Nat → Prop} {d1 d2 : Nat} {D : DbM} (h1 : DbAt P1 w d1 0 D) (h2 : DbAt P2 w d2 0 D) : Calls Tryz.prog 13 #[.pointer (some ⟨d1, 0, none⟩), .pointer (some ⟨d2, 0, none⟩)] w fun e w' => e = .returned (.bool true) ∧ Keep (fun _ => False) w w' := by
  obtain ⟨va1, va2, va3, va4, va5, va6, ra, sa, hda, hra, xa1, xa2, xa3, ⟨xa4, fa4, ia4⟩, xa5, ⟨xa6, fa6, ia6⟩, _⟩ := h1.ex
  obtain ⟨vb1, vb2, vb3, vb4, vb5, vb6, rb, sb, hdb, hrb, xb1, xb2, xb3, ⟨xb4, fb4, ib4⟩, xb5, ⟨xb6, fb6, ib6⟩, _⟩ := h2.ex
  have pa1 : w.cell? ⟨d1, 0, none⟩ = some va1 := hra 0 _ rfl
  have pb1 : w.cell? ⟨d2, 0, none⟩ = some vb1 := hrb 0 _ rfl
  have pa2 : w.cell? ⟨d1, 1, none⟩ = some va2 := hra 1 _ rfl
  have pb2 : w.cell? ⟨d2, 1, none⟩ = some vb2 := hrb 1 _ rfl
  have pa3 : w.cell? ⟨d1, 2, none⟩ = some va3 := hra 2 _ rfl
  have pb3 : w.cell? ⟨d2, 2, none⟩ = some vb3 := hrb 2 _ rfl
  have pa4 : w.cell? ⟨d1, 3, none⟩ = some va4 := hra 3 _ rfl
  have pb4 : w.cell? ⟨d2, 3, none⟩ = some vb4 := hrb 3 _ rfl
  have pa5 : w.cell? ⟨d1, 4, none⟩ = some va5 := hra 4 _ rfl
  have pb5 : w.cell? ⟨d2, 4, none⟩ = some vb5 := hrb 4 _ rfl
  have pa6 : w.cell? ⟨d1, 5, none⟩ = some va6 := hra 5 _ rfl
  have pb6 : w.cell? ⟨d2, 5, none⟩ = some vb6 := hrb 5 _ rfl
  obtain ⟨aa1, ca1, rfl, hca1, hma1⟩ := xa1.slice
  obtain ⟨ab1, cb1, rfl, hcb1, hmb1⟩ := xb1.slice
  obtain ⟨aa2, ca2, rfl, hca2, hma2⟩ := xa2.slice
  obtain ⟨ab2, cb2, rfl, hcb2, hmb2⟩ := xb2.slice
  obtain ⟨aa3, ca3, rfl, hca3, hma3⟩ := xa3.slice
  obtain ⟨ab3, cb3, rfl, hcb3, hmb3⟩ := xb3.slice
  obtain ⟨aa4, ca4, rfl, hca4, hma4⟩ := xa4.slice
  obtain ⟨ab4, cb4, rfl, hcb4, hmb4⟩ := xb4.slice
  obtain ⟨aa5, ca5, rfl, hca5, hma5⟩ := xa5.slice
  obtain ⟨ab5, cb5, rfl, hcb5, hmb5⟩ := xb5.slice
  obtain ⟨aa6, ca6, rfl, hca6, hma6⟩ := xa6.slice
  obtain ⟨ab6, cb6, rfl, hcb6, hmb6⟩ := xb6.slice
  have ln4 : ra.length = rb.length := by have := congrArg List.length (fa4.trans fb4.symm); simpa using this
  have ln6 : sa.length = sb.length := by have := congrArg List.length (fa6.trans fb6.symm); simpa using this
  rw [ln4] at pa4 xa4 hca4
  rw [ln6] at pa6 xa6 hca6
  obtain ⟨n1, hn1⟩ : ∃ n, n = (D.rooms).length := ⟨_, rfl⟩
  rw [← hn1] at pa1 pb1 xa1 xb1 hca1 hcb1
  obtain ⟨n2, hn2⟩ : ∃ n, n = (D.protos).length := ⟨_, rfl⟩
  rw [← hn2] at pa2 pb2 xa2 xb2 hca2 hcb2
  obtain ⟨n3, hn3⟩ : ∃ n, n = (D.mobs).length := ⟨_, rfl⟩
  rw [← hn3] at pa3 pb3 xa3 xb3 hca3 hcb3
  obtain ⟨n4, hn4⟩ : ∃ n, n = (rb).length := ⟨_, rfl⟩
  rw [← hn4] at pa4 pb4 xa4 xb4 hca4 hcb4
  obtain ⟨n5, hn5⟩ : ∃ n, n = (D.quests).length := ⟨_, rfl⟩
  rw [← hn5] at pa5 pb5 xa5 xb5 hca5 hcb5
  obtain ⟨n6, hn6⟩ : ∃ n, n = (sb).length := ⟨_, rfl⟩
  rw [← hn6] at pa6 pb6 xa6 xb6 hca6 hcb6
  unfold maxLen at hma1 hmb1 hma2 hmb2 hma3 hmb3 hma4 hmb4 hma5 hmb5 hma6 hmb6
  have HN1 := Lib.hid hn1
  have HXa1 := Lib.hid xa1
  have HPa1 : Hid (∀ w9, Keep (fun _ => False) w w9 → w9.cell? ⟨d1, 0, none⟩ = some (.slice aa1 n1 ca1)) := Lib.hid (fun w9 k => (k.cell hda (fun h => h) _).trans pa1)
  have HXb1 := Lib.hid xb1
  have HPb1 : Hid (∀ w9, Keep (fun _ => False) w w9 → w9.cell? ⟨d2, 0, none⟩ = some (.slice ab1 n1 cb1)) := Lib.hid (fun w9 k => (k.cell hdb (fun h => h) _).trans pb1)
  have HN2 := Lib.hid hn2
  have HXa2 := Lib.hid xa2
  have HPa2 : Hid (∀ w9, Keep (fun _ => False) w w9 → w9.cell? ⟨d1, 1, none⟩ = some (.slice aa2 n2 ca2)) := Lib.hid (fun w9 k => (k.cell hda (fun h => h) _).trans pa2)
  have HXb2 := Lib.hid xb2
  have HPb2 : Hid (∀ w9, Keep (fun _ => False) w w9 → w9.cell? ⟨d2, 1, none⟩ = some (.slice ab2 n2 cb2)) := Lib.hid (fun w9 k => (k.cell hdb (fun h => h) _).trans pb2)
  have HN3 := Lib.hid hn3
  have HXa3 := Lib.hid xa3
  have HPa3 : Hid (∀ w9, Keep (fun _ => False) w w9 → w9.cell? ⟨d1, 2, none⟩ = some (.slice aa3 n3 ca3)) := Lib.hid (fun w9 k => (k.cell hda (fun h => h) _).trans pa3)
  have HXb3 := Lib.hid xb3
  have HPb3 : Hid (∀ w9, Keep (fun _ => False) w w9 → w9.cell? ⟨d2, 2, none⟩ = some (.slice ab3 n3 cb3)) := Lib.hid (fun w9 k => (k.cell hdb (fun h => h) _).trans pb3)
  have HN4 := Lib.hid hn4
  have HXa4 := Lib.hid xa4
  have HPa4 : Hid (∀ w9, Keep (fun _ => False) w w9 → w9.cell? ⟨d1, 3, none⟩ = some (.slice aa4 n4 ca4)) := Lib.hid (fun w9 k => (k.cell hda (fun h => h) _).trans pa4)
  have HXb4 := Lib.hid xb4
  have HPb4 : Hid (∀ w9, Keep (fun _ => False) w w9 → w9.cell? ⟨d2, 3, none⟩ = some (.slice ab4 n4 cb4)) := Lib.hid (fun w9 k => (k.cell hdb (fun h => h) _).trans pb4)
  have HN5 := Lib.hid hn5
  have HXa5 := Lib.hid xa5
  have HPa5 : Hid (∀ w9, Keep (fun _ => False) w w9 → w9.cell? ⟨d1, 4, none⟩ = some (.slice aa5 n5 ca5)) := Lib.hid (fun w9 k => (k.cell hda (fun h => h) _).trans pa5)
  have HXb5 := Lib.hid xb5
  have HPb5 : Hid (∀ w9, Keep (fun _ => False) w w9 → w9.cell? ⟨d2, 4, none⟩ = some (.slice ab5 n5 cb5)) := Lib.hid (fun w9 k => (k.cell hdb (fun h => h) _).trans pb5)
  have HN6 := Lib.hid hn6
  have HXa6 := Lib.hid xa6
  have HPa6 : Hid (∀ w9, Keep (fun _ => False) w w9 → w9.cell? ⟨d1, 5, none⟩ = some (.slice aa6 n6 ca6)) := Lib.hid (fun w9 k => (k.cell hda (fun h => h) _).trans pa6)
  have HXb6 := Lib.hid xb6
  have HPb6 : Hid (∀ w9, Keep (fun _ => False) w w9 → w9.cell? ⟨d2, 5, none⟩ = some (.slice ab6 n6 cb6)) := Lib.hid (fun w9 k => (k.cell hdb (fun h => h) _).trans pb6)
  have HF4 := Lib.hid (fa4.trans fb4.symm); have HF6 := Lib.hid (fa6.trans fb6.symm)
  have HIA4 := Lib.hid ia4; have HIB4 := Lib.hid ib4; have HIA6 := Lib.hid ia6; have HIB6 := Lib.hid ib6
  have HL4 := Lib.hid ln4; have HL6 := Lib.hid ln6
  clear h1 h2 hra hrb fa4 fb4 fa6 fb6 ia4 ib4 ia6 ib6 ln4 ln6 hda hdb xa1 xb1 xa2 xb2 xa3 xb3 xa4 xb4 xa5 xb5 xa6 xb6 hn1 hn2 hn3 hn4 hn5 hn6
  go_enter Tryz.func13, Tryz.ntmps13
  go_wp2
  go_quiet (fail)
  go_wp2
  clear pa1 pb1 pa2 pb2 pa3 pb3 pa4 pb4 pa5 pb5 pa6 pb6
  go_loopw [5] (fun iv wr => ELo n1 w iv wr) (fun iv _ => n1 - (intOf iv).toNat)
  case atStart => exact ⟨0, by omega, rfl, keepQ _ _⟩
  case round =>
    obtain ⟨k, hk, rfl, hK⟩ := hrel.ex
    have HK := Lib.hid hK
    have ka := HPa1.out wr hK
    have kb := HPb1.out wr hK
    clear hK hrel
    by_cases hlt : k < n1
    · have hd1 : decide (k < n1) = true := by simpa using hlt
      obtain ⟨x, hx⟩ : ∃ x, D.rooms[k]? = some x := ⟨_, List.getElem?_eq_getElem (by rw [← HN1.out]; exact hlt)⟩
      obtain ⟨g1, o1, rfl, hg1⟩ := HXa1.out.some hx
      obtain ⟨g2, o2, rfl, hg2⟩ := HXb1.out.some hx
      have r1 : wr.rangeAt g1 (o1 + k * 10) (roomC x) := range_keep (HXa1.out.range roomC_len k x hx) HK.out hg1 (fun h => h)
      have r2 : wr.rangeAt g2 (o2 + k * 10) (roomC x) := range_keep (HXb1.out.range roomC_len k x hx) HK.out hg2 (fun h => h)
      have y10 : wr.cell? ⟨g1, o1 + k * 10, none⟩ = some (.int .i64 x.id) := r1 0 _ rfl
      have y20 : wr.cell? ⟨g2, o2 + k * 10, none⟩ = some (.int .i64 x.id) := r2 0 _ rfl
      have y11 : wr.cell? ⟨g1, o1 + k * 10 + 1, none⟩ = some (.string x.name) := r1 1 _ rfl
      have y21 : wr.cell? ⟨g2, o2 + k * 10 + 1, none⟩ = some (.string x.name) := r2 1 _ rfl
      have y12 : wr.cell? ⟨g1, o1 + k * 10 + 2, none⟩ = some (.int .i64 x.kind) := r1 2 _ rfl
      have y22 : wr.cell? ⟨g2, o2 + k * 10 + 2, none⟩ = some (.int .i64 x.kind) := r2 2 _ rfl
      have y13 : wr.cell? ⟨g1, o1 + k * 10 + 3, none⟩ = some (.int .i64 x.price) := r1 3 _ rfl
      have y23 : wr.cell? ⟨g2, o2 + k * 10 + 3, none⟩ = some (.int .i64 x.price) := r2 3 _ rfl
      have y14 : wr.cell? ⟨g1, o1 + k * 10 + 4, none⟩ = some (.int .i64 x.e0) := r1 4 _ rfl
      have y24 : wr.cell? ⟨g2, o2 + k * 10 + 4, none⟩ = some (.int .i64 x.e0) := r2 4 _ rfl
      have y15 : wr.cell? ⟨g1, o1 + k * 10 + 5, none⟩ = some (.int .i64 x.e1) := r1 5 _ rfl
      have y25 : wr.cell? ⟨g2, o2 + k * 10 + 5, none⟩ = some (.int .i64 x.e1) := r2 5 _ rfl
      have y16 : wr.cell? ⟨g1, o1 + k * 10 + 6, none⟩ = some (.int .i64 x.e2) := r1 6 _ rfl
      have y26 : wr.cell? ⟨g2, o2 + k * 10 + 6, none⟩ = some (.int .i64 x.e2) := r2 6 _ rfl
      have y17 : wr.cell? ⟨g1, o1 + k * 10 + 7, none⟩ = some (.int .i64 x.e3) := r1 7 _ rfl
      have y27 : wr.cell? ⟨g2, o2 + k * 10 + 7, none⟩ = some (.int .i64 x.e3) := r2 7 _ rfl
      have y18 : wr.cell? ⟨g1, o1 + k * 10 + 8, none⟩ = some (.int .i64 x.e4) := r1 8 _ rfl
      have y28 : wr.cell? ⟨g2, o2 + k * 10 + 8, none⟩ = some (.int .i64 x.e4) := r2 8 _ rfl
      have y19 : wr.cell? ⟨g1, o1 + k * 10 + 9, none⟩ = some (.int .i64 x.e5) := r1 9 _ rfl
      have y29 : wr.cell? ⟨g2, o2 + k * 10 + 9, none⟩ = some (.int .i64 x.e5) := r2 9 _ rfl
      have hne : ∀ w9 : World, (binOp .neq 53 (.agg #[.int .i64 x.id, .string x.name, .int .i64 x.kind, .int .i64 x.price, .int .i64 x.e0, .int .i64 x.e1, .int .i64 x.e2, .int .i64 x.e3, .int .i64 x.e4, .int .i64 x.e5]) (.agg #[.int .i64 x.id, .string x.name, .int .i64 x.kind, .int .i64 x.price, .int .i64 x.e0, .int .i64 x.e1, .int .i64 x.e2, .int .i64 x.e3, .int .i64 x.e4, .int .i64 x.e5])).run Tryz.prog w9 = .ok (.bool false) w9 := fun w9 => neRoom x w9
      clear r1 r2 hx
      as_aux_lemma =>
      go_wp2
      go_quiet (fail)
      go_wp2
      go_roundw
      case rel => have T : ELo n1 w (.int .i64 ((k + 1 : Nat) : Int)) (wr.drewN nq) := ⟨k + 1, by omega, rfl, HK.out.trans (keepQ wr nq) (fun _ h => h.elim)⟩; first | exact T | ((repeat apply Exists.intro); first | exact T | exact ⟨T, rfl⟩)
      case measure => simp [intOf]; omega
    · have hd1 : decide (k < n1) = false := by simpa using hlt
      as_aux_lemma =>
      go_wp2
      clear ka kb
      rename World => s1
      go_loopw [6] (fun iv wr => ELo n2 w iv wr) (fun iv _ => n2 - (intOf iv).toNat)
      case atStart => exact ⟨0, by omega, rfl, HK.out⟩
      case round =>
        obtain ⟨k, hk, rfl, hK⟩ := hrel.ex
        have HK := Lib.hid hK
        have ka := HPa2.out wr hK
        have kb := HPb2.out wr hK
        clear hK hrel
        by_cases hlt : k < n2
        · have hd1 : decide (k < n2) = true := by simpa using hlt
          obtain ⟨x, hx⟩ : ∃ x, D.protos[k]? = some x := ⟨_, List.getElem?_eq_getElem (by rw [← HN2.out]; exact hlt)⟩
          obtain ⟨g1, o1, rfl, hg1⟩ := HXa2.out.some hx
          obtain ⟨g2, o2, rfl, hg2⟩ := HXb2.out.some hx
          have r1 : wr.rangeAt g1 (o1 + k * 5) (protoC x) := range_keep (HXa2.out.range protoC_len k x hx) HK.out hg1 (fun h => h)
          have r2 : wr.rangeAt g2 (o2 + k * 5) (protoC x) := range_keep (HXb2.out.range protoC_len k x hx) HK.out hg2 (fun h => h)
          have y10 : wr.cell? ⟨g1, o1 + k * 5, none⟩ = some (.int .i64 x.id) := r1 0 _ rfl
          have y20 : wr.cell? ⟨g2, o2 + k * 5, none⟩ = some (.int .i64 x.id) := r2 0 _ rfl
          have y11 : wr.cell? ⟨g1, o1 + k * 5 + 1, none⟩ = some (.string x.name) := r1 1 _ rfl
          have y21 : wr.cell? ⟨g2, o2 + k * 5 + 1, none⟩ = some (.string x.name) := r2 1 _ rfl
          have y12 : wr.cell? ⟨g1, o1 + k * 5 + 2, none⟩ = some (.int .i64 x.slot) := r1 2 _ rfl
          have y22 : wr.cell? ⟨g2, o2 + k * 5 + 2, none⟩ = some (.int .i64 x.slot) := r2 2 _ rfl
          have y13 : wr.cell? ⟨g1, o1 + k * 5 + 3, none⟩ = some (.int .i64 x.power) := r1 3 _ rfl
          have y23 : wr.cell? ⟨g2, o2 + k * 5 + 3, none⟩ = some (.int .i64 x.power) := r2 3 _ rfl
          have y14 : wr.cell? ⟨g1, o1 + k * 5 + 4, none⟩ = some (.int .i64 x.price) := r1 4 _ rfl
          have y24 : wr.cell? ⟨g2, o2 + k * 5 + 4, none⟩ = some (.int .i64 x.price) := r2 4 _ rfl
          have hne : ∀ w9 : World, (binOp .neq 78 (.agg #[.int .i64 x.id, .string x.name, .int .i64 x.slot, .int .i64 x.power, .int .i64 x.price]) (.agg #[.int .i64 x.id, .string x.name, .int .i64 x.slot, .int .i64 x.power, .int .i64 x.price])).run Tryz.prog w9 = .ok (.bool false) w9 := fun w9 => neProto x w9
          clear r1 r2 hx
          as_aux_lemma =>
          go_wp2
          go_quiet (fail)
          go_wp2
          go_roundw
          case rel => have T : ELo n2 w (.int .i64 ((k + 1 : Nat) : Int)) (wr.drewN nq) := ⟨k + 1, by omega, rfl, HK.out.trans (keepQ wr nq) (fun _ h => h.elim)⟩; first | exact T | ((repeat apply Exists.intro); first | exact T | exact ⟨T, rfl⟩)
          case measure => simp [intOf]; omega
        · have hd1 : decide (k < n2) = false := by simpa using hlt
          as_aux_lemma =>
          go_wp2
          clear ka kb
          rename World => s2
          go_loopw [7] (fun iv wr => ELo n3 w iv wr) (fun iv _ => n3 - (intOf iv).toNat)
          case atStart => exact ⟨0, by omega, rfl, HK.out⟩
          case round =>
            obtain ⟨k, hk, rfl, hK⟩ := hrel.ex
            have HK := Lib.hid hK
            have ka := HPa3.out wr hK
            have kb := HPb3.out wr hK
            clear hK hrel
            by_cases hlt : k < n3
            · have hd1 : decide (k < n3) = true := by simpa using hlt
              obtain ⟨x, hx⟩ : ∃ x, D.mobs[k]? = some x := ⟨_, List.getElem?_eq_getElem (by rw [← HN3.out]; exact hlt)⟩
              obtain ⟨g1, o1, rfl, hg1⟩ := HXa3.out.some hx
              obtain ⟨g2, o2, rfl, hg2⟩ := HXb3.out.some hx
              have r1 : wr.rangeAt g1 (o1 + k * 7) (mobpC x) := range_keep (HXa3.out.range mobpC_len k x hx) HK.out hg1 (fun h => h)
              have r2 : wr.rangeAt g2 (o2 + k * 7) (mobpC x) := range_keep (HXb3.out.range mobpC_len k x hx) HK.out hg2 (fun h => h)
              have y10 : wr.cell? ⟨g1, o1 + k * 7, none⟩ = some (.int .i64 x.id) := r1 0 _ rfl
              have y20 : wr.cell? ⟨g2, o2 + k * 7, none⟩ = some (.int .i64 x.id) := r2 0 _ rfl
              have y11 : wr.cell? ⟨g1, o1 + k * 7 + 1, none⟩ = some (.string x.name) := r1 1 _ rfl
              have y21 : wr.cell? ⟨g2, o2 + k * 7 + 1, none⟩ = some (.string x.name) := r2 1 _ rfl
              have y12 : wr.cell? ⟨g1, o1 + k * 7 + 2, none⟩ = some (.int .i64 x.home) := r1 2 _ rfl
              have y22 : wr.cell? ⟨g2, o2 + k * 7 + 2, none⟩ = some (.int .i64 x.home) := r2 2 _ rfl
              have y13 : wr.cell? ⟨g1, o1 + k * 7 + 3, none⟩ = some (.int .i64 x.hp) := r1 3 _ rfl
              have y23 : wr.cell? ⟨g2, o2 + k * 7 + 3, none⟩ = some (.int .i64 x.hp) := r2 3 _ rfl
              have y14 : wr.cell? ⟨g1, o1 + k * 7 + 4, none⟩ = some (.int .i64 x.power) := r1 4 _ rfl
              have y24 : wr.cell? ⟨g2, o2 + k * 7 + 4, none⟩ = some (.int .i64 x.power) := r2 4 _ rfl
              have y15 : wr.cell? ⟨g1, o1 + k * 7 + 5, none⟩ = some (.int .i64 x.xp) := r1 5 _ rfl
              have y25 : wr.cell? ⟨g2, o2 + k * 7 + 5, none⟩ = some (.int .i64 x.xp) := r2 5 _ rfl
              have y16 : wr.cell? ⟨g1, o1 + k * 7 + 6, none⟩ = some (.int .i64 x.gold) := r1 6 _ rfl
              have y26 : wr.cell? ⟨g2, o2 + k * 7 + 6, none⟩ = some (.int .i64 x.gold) := r2 6 _ rfl
              have hne : ∀ w9 : World, (binOp .neq 80 (.agg #[.int .i64 x.id, .string x.name, .int .i64 x.home, .int .i64 x.hp, .int .i64 x.power, .int .i64 x.xp, .int .i64 x.gold]) (.agg #[.int .i64 x.id, .string x.name, .int .i64 x.home, .int .i64 x.hp, .int .i64 x.power, .int .i64 x.xp, .int .i64 x.gold])).run Tryz.prog w9 = .ok (.bool false) w9 := fun w9 => neMobProto x w9
              clear r1 r2 hx
              as_aux_lemma =>
              go_wp2
              go_quiet (fail)
              go_wp2
              go_roundw
              case rel => have T : ELo n3 w (.int .i64 ((k + 1 : Nat) : Int)) (wr.drewN nq) := ⟨k + 1, by omega, rfl, HK.out.trans (keepQ wr nq) (fun _ h => h.elim)⟩; first | exact T | ((repeat apply Exists.intro); first | exact T | exact ⟨T, rfl⟩)
              case measure => simp [intOf]; omega
            · have hd1 : decide (k < n3) = false := by simpa using hlt
              as_aux_lemma =>
              go_wp2
              clear ka kb
              rename World => s3
              go_loopw [8] (fun iv wr => ELo n4 w iv wr) (fun iv _ => n4 - (intOf iv).toNat)
              case atStart => exact ⟨0, by omega, rfl, HK.out⟩
              case round =>
                obtain ⟨k, hk, rfl, hK⟩ := hrel.ex
                have HK := Lib.hid hK
                have ka := HPa4.out wr hK
                have kb := HPb4.out wr hK
                clear hK hrel
                by_cases hlt : k < n4
                · have hd1 : decide (k < n4) = true := by simpa using hlt
                  have hka : k < ra.length := by rw [HL4.out, ← HN4.out]; exact hlt
                  have hkb : k < rb.length := by rw [← HN4.out]; exact hlt
                  obtain ⟨⟨x, u⟩, hx⟩ : ∃ x, ra[k]? = some x := ⟨_, List.getElem?_eq_getElem hka⟩
                  obtain ⟨⟨y, v⟩, hy⟩ : ∃ y, rb[k]? = some y := ⟨_, List.getElem?_eq_getElem hkb⟩
                  obtain rfl : x = y := by
                    have h0 := congrArg (fun l => l[k]?) HF4.out
                    simp only [List.getElem?_map, hx, hy, Option.map_some, Option.some.injEq] at h0
                    exact h0
                  have iu := (HIA4.out (x, u) (List.mem_of_getElem? hx)).keep HK.out (fun _ _ _ h => h)
                  have iv' := (HIB4.out (x, v) (List.mem_of_getElem? hy)).keep HK.out (fun _ _ _ h => h)
                  have HIN : Hid (∀ nn, Calls Tryz.prog 33 #[u, v] (wr.drewN nn) fun e w' => e = .returned (.bool true) ∧ ∃ m, w' = (wr.drewN nn).drewN m) := Lib.hid (fun nn => ints_same (w := wr.drewN nn) (iu.keep (keepQ wr nn) (fun _ _ _ h => h)) (iv'.keep (keepQ wr nn) (fun _ _ _ h => h)))
                  obtain ⟨g1, o1, rfl, hg1⟩ := (HXa4.out : Rec w 83 recC 2 (.slice aa4 n4 ca4) ra).some hx
                  obtain ⟨g2, o2, rfl, hg2⟩ := (HXb4.out : Rec w 83 recC 2 (.slice ab4 n4 cb4) rb).some hy
                  have r1 : wr.rangeAt g1 (o1 + k * 2) (recC (x, u)) := range_keep ((HXa4.out : Rec w 83 recC 2 (.slice (some ⟨g1, o1, none⟩) n4 ca4) ra).range recC_len k _ hx) HK.out hg1 (fun h => h)
                  have r2 : wr.rangeAt g2 (o2 + k * 2) (recC (x, v)) := range_keep ((HXb4.out : Rec w 83 recC 2 (.slice (some ⟨g2, o2, none⟩) n4 cb4) rb).range recC_len k _ hy) HK.out hg2 (fun h => h)
                  obtain ⟨_, ua, uc, hu, _⟩ := iu.1
                  obtain ⟨_, wa, wc, hv, _⟩ := iv'.1
                  simp only at hu hv
                  subst hu hv
                  have y10 : wr.cell? ⟨g1, o1 + k * 2, none⟩ = some (.int .i64 x.out) := r1 0 _ rfl
                  have y20 : wr.cell? ⟨g2, o2 + k * 2, none⟩ = some (.int .i64 x.out) := r2 0 _ rfl
                  have y11 : wr.cell? ⟨g1, o1 + k * 2 + 1, none⟩ = some (.slice ua x.needs.length uc) := r1 1 _ rfl
                  have y21 : wr.cell? ⟨g2, o2 + k * 2 + 1, none⟩ = some (.slice wa x.needs.length wc) := r2 1 _ rfl
                  clear r1 r2 hx hy iu iv'
                  as_aux_lemma =>
                  go_wp2
                  go_quiet (first | (go_at_call 33; with_reducible refine Calls.quiet_of (HIN.out _)))
                  go_wp2
                  go_roundw
                  case rel => have T : ELo n4 w (.int .i64 ((k + 1 : Nat) : Int)) (wr.drewN nq) := ⟨k + 1, by omega, rfl, HK.out.trans (keepQ wr nq) (fun _ h => h.elim)⟩; first | exact T | ((repeat apply Exists.intro); first | exact T | exact ⟨T, rfl⟩)
                  case measure => simp [intOf]; omega
                · have hd1 : decide (k < n4) = false := by simpa using hlt
                  as_aux_lemma =>
                  go_wp2
                  clear ka kb
                  rename World => s4
                  go_loopw [9] (fun iv wr => ELo n5 w iv wr) (fun iv _ => n5 - (intOf iv).toNat)
                  case atStart => exact ⟨0, by omega, rfl, HK.out⟩
                  case round =>
                    obtain ⟨k, hk, rfl, hK⟩ := hrel.ex
                    have HK := Lib.hid hK
                    have ka := HPa5.out wr hK
                    have kb := HPb5.out wr hK
                    clear hK hrel
                    by_cases hlt : k < n5
                    · have hd1 : decide (k < n5) = true := by simpa using hlt
                      obtain ⟨x, hx⟩ : ∃ x, D.quests[k]? = some x := ⟨_, List.getElem?_eq_getElem (by rw [← HN5.out]; exact hlt)⟩
                      obtain ⟨g1, o1, rfl, hg1⟩ := HXa5.out.some hx
                      obtain ⟨g2, o2, rfl, hg2⟩ := HXb5.out.some hx
                      have r1 : wr.rangeAt g1 (o1 + k * 5) (questC x) := range_keep (HXa5.out.range questC_len k x hx) HK.out hg1 (fun h => h)
                      have r2 : wr.rangeAt g2 (o2 + k * 5) (questC x) := range_keep (HXb5.out.range questC_len k x hx) HK.out hg2 (fun h => h)
                      have y10 : wr.cell? ⟨g1, o1 + k * 5, none⟩ = some (.int .i64 x.id) := r1 0 _ rfl
                      have y20 : wr.cell? ⟨g2, o2 + k * 5, none⟩ = some (.int .i64 x.id) := r2 0 _ rfl
                      have y11 : wr.cell? ⟨g1, o1 + k * 5 + 1, none⟩ = some (.int .i64 x.item) := r1 1 _ rfl
                      have y21 : wr.cell? ⟨g2, o2 + k * 5 + 1, none⟩ = some (.int .i64 x.item) := r2 1 _ rfl
                      have y12 : wr.cell? ⟨g1, o1 + k * 5 + 2, none⟩ = some (.int .i64 x.count) := r1 2 _ rfl
                      have y22 : wr.cell? ⟨g2, o2 + k * 5 + 2, none⟩ = some (.int .i64 x.count) := r2 2 _ rfl
                      have y13 : wr.cell? ⟨g1, o1 + k * 5 + 3, none⟩ = some (.int .i64 x.gold) := r1 3 _ rfl
                      have y23 : wr.cell? ⟨g2, o2 + k * 5 + 3, none⟩ = some (.int .i64 x.gold) := r2 3 _ rfl
                      have y14 : wr.cell? ⟨g1, o1 + k * 5 + 4, none⟩ = some (.int .i64 x.reward) := r1 4 _ rfl
                      have y24 : wr.cell? ⟨g2, o2 + k * 5 + 4, none⟩ = some (.int .i64 x.reward) := r2 4 _ rfl
                      have hne : ∀ w9 : World, (binOp .neq 86 (.agg #[.int .i64 x.id, .int .i64 x.item, .int .i64 x.count, .int .i64 x.gold, .int .i64 x.reward]) (.agg #[.int .i64 x.id, .int .i64 x.item, .int .i64 x.count, .int .i64 x.gold, .int .i64 x.reward])).run Tryz.prog w9 = .ok (.bool false) w9 := fun w9 => neQuest x w9
                      clear r1 r2 hx
                      as_aux_lemma =>
                      go_wp2
                      go_quiet (fail)
                      go_wp2
                      go_roundw
                      case rel => have T : ELo n5 w (.int .i64 ((k + 1 : Nat) : Int)) (wr.drewN nq) := ⟨k + 1, by omega, rfl, HK.out.trans (keepQ wr nq) (fun _ h => h.elim)⟩; first | exact T | ((repeat apply Exists.intro); first | exact T | exact ⟨T, rfl⟩)
                      case measure => simp [intOf]; omega
                    · have hd1 : decide (k < n5) = false := by simpa using hlt
                      as_aux_lemma =>
                      go_wp2
                      clear ka kb
                      rename World => s5
                      go_loopw [10] (fun iv wr => ELo n6 w iv wr) (fun iv _ => n6 - (intOf iv).toNat)
                      case atStart => exact ⟨0, by omega, rfl, HK.out⟩
                      case round =>
                        obtain ⟨k, hk, rfl, hK⟩ := hrel.ex
                        have HK := Lib.hid hK
                        have ka := HPa6.out wr hK
                        have kb := HPb6.out wr hK
                        clear hK hrel
                        by_cases hlt : k < n6
                        · have hd1 : decide (k < n6) = true := by simpa using hlt
                          have hka : k < sa.length := by rw [HL6.out, ← HN6.out]; exact hlt
                          have hkb : k < sb.length := by rw [← HN6.out]; exact hlt
                          obtain ⟨⟨x, u⟩, hx⟩ : ∃ x, sa[k]? = some x := ⟨_, List.getElem?_eq_getElem hka⟩
                          obtain ⟨⟨y, v⟩, hy⟩ : ∃ y, sb[k]? = some y := ⟨_, List.getElem?_eq_getElem hkb⟩
                          obtain rfl : x = y := by
                            have h0 := congrArg (fun l => l[k]?) HF6.out
                            simp only [List.getElem?_map, hx, hy, Option.map_some, Option.some.injEq] at h0
                            exact h0
                          have iu := (HIA6.out (x, u) (List.mem_of_getElem? hx)).keep HK.out (fun _ _ _ h => h)
                          have iv' := (HIB6.out (x, v) (List.mem_of_getElem? hy)).keep HK.out (fun _ _ _ h => h)
                          have HIN : Hid (∀ nn, Calls Tryz.prog 33 #[u, v] (wr.drewN nn) fun e w' => e = .returned (.bool true) ∧ ∃ m, w' = (wr.drewN nn).drewN m) := Lib.hid (fun nn => ints_same (w := wr.drewN nn) (iu.keep (keepQ wr nn) (fun _ _ _ h => h)) (iv'.keep (keepQ wr nn) (fun _ _ _ h => h)))
                          obtain ⟨g1, o1, rfl, hg1⟩ := (HXa6.out : Rec w 88 shopC 3 (.slice aa6 n6 ca6) sa).some hx
                          obtain ⟨g2, o2, rfl, hg2⟩ := (HXb6.out : Rec w 88 shopC 3 (.slice ab6 n6 cb6) sb).some hy
                          have r1 : wr.rangeAt g1 (o1 + k * 3) (shopC (x, u)) := range_keep ((HXa6.out : Rec w 88 shopC 3 (.slice (some ⟨g1, o1, none⟩) n6 ca6) sa).range shopC_len k _ hx) HK.out hg1 (fun h => h)
                          have r2 : wr.rangeAt g2 (o2 + k * 3) (shopC (x, v)) := range_keep ((HXb6.out : Rec w 88 shopC 3 (.slice (some ⟨g2, o2, none⟩) n6 cb6) sb).range shopC_len k _ hy) HK.out hg2 (fun h => h)
                          obtain ⟨_, ua, uc, hu, _⟩ := iu.1
                          obtain ⟨_, wa, wc, hv, _⟩ := iv'.1
                          simp only at hu hv
                          subst hu hv
                          have y10 : wr.cell? ⟨g1, o1 + k * 3, none⟩ = some (.int .i64 x.room) := r1 0 _ rfl
                          have y20 : wr.cell? ⟨g2, o2 + k * 3, none⟩ = some (.int .i64 x.room) := r2 0 _ rfl
                          have y11 : wr.cell? ⟨g1, o1 + k * 3 + 1, none⟩ = some (.int .i64 x.till) := r1 1 _ rfl
                          have y21 : wr.cell? ⟨g2, o2 + k * 3 + 1, none⟩ = some (.int .i64 x.till) := r2 1 _ rfl
                          have y12 : wr.cell? ⟨g1, o1 + k * 3 + 2, none⟩ = some (.slice ua x.items.length uc) := r1 2 _ rfl
                          have y22 : wr.cell? ⟨g2, o2 + k * 3 + 2, none⟩ = some (.slice wa x.items.length wc) := r2 2 _ rfl
                          clear r1 r2 hx hy iu iv'
                          as_aux_lemma =>
                          go_wp2
                          go_quiet (first | (go_at_call 33; with_reducible refine Calls.quiet_of (HIN.out _)))
                          go_wp2
                          go_roundw
                          case rel => have T : ELo n6 w (.int .i64 ((k + 1 : Nat) : Int)) (wr.drewN nq) := ⟨k + 1, by omega, rfl, HK.out.trans (keepQ wr nq) (fun _ h => h.elim)⟩; first | exact T | ((repeat apply Exists.intro); first | exact T | exact ⟨T, rfl⟩)
                          case measure => simp [intOf]; omega
                        · have hd1 : decide (k < n6) = false := by simpa using hlt
                          as_aux_lemma =>
                          go_wp2
                          clear ka kb
                          rename World => s6
                          go_ret
                          exact ⟨rfl, HK.out⟩
end Go.Proofs.YtcodbomgodkcmaaGreatDoor.Wd
