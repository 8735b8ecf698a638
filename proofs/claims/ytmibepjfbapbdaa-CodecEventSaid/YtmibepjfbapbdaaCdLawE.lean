/- CodecEvent: its walk. -/
import Derived.Test.YtmibepjfbapbdaaCdBeg
import Derived.Test.YtmibepjfbapbdaaCdCut
import Derived.Test.YtmibepjfbapbdaaCdEqS
import Derived.Test.YtmibepjfbapbdaaCdArg
import Derived.Deep.CutBlock
import Derived.Deep.CutRange
namespace Go.Proofs.Ytmibepjfbapbdaa.Cd
open Go.RowKit Go.Proofs.Ytmibepjfbapbdaa
set_option maxRecDepth 100000

theorem encN_len (n : Int) : (encN n).length ≤ 9 := by
  unfold encN
  split
  · simp
  · rw [List.length_cons, be_length]; have := sizeB_le (twist n); omega
theorem encL_len (n : Nat) : (encL n).length ≤ 4 := by
  unfold encL
  split
  · simp
  · rw [be_length]; omega
theorem flat_len {M : Type} (f : M → List UInt8) (k : Nat) (h : ∀ x, (f x).length ≤ k) : ∀ l : List M, (l.flatMap f).length ≤ k * l.length
  | [] => by simp
  | x :: l => by
    rw [List.flatMap_cons, List.length_append, List.length_cons, Nat.mul_add]
    have := flat_len f k h l
    have := h x
    omega
theorem cT_len (s : ByteArray) : (cT.enc s).length ≤ 4 + s.size := by
  show (encL s.size ++ s.data.toList).length ≤ _
  rw [List.length_append]
  have := encL_len s.size
  have : s.data.toList.length = s.size := by rw [Array.length_toList]; rfl
  omega
theorem event_len (x : MEvent) : (69 :: cEvent.enc x).length ≤ 64 + x.2.1.size + x.2.2.1.size + 10 * x.2.2.2.length := by
  obtain ⟨k, s, t, l⟩ := x
  show (69 :: (encN k ++ (cT.enc s ++ (cT.enc t ++ (encL l.length ++ l.flatMap encN))))).length ≤ _
  simp only [List.length_cons, List.length_append]
  have h1 := encN_len k
  have h2 := cT_len s
  have h3 := cT_len t
  have h4 := encL_len l.length
  have h5 := flat_len encN 9 encN_len l
  omega
theorem SmallE.okE {x : MEvent} (h : SmallE x) : cEvent.ok x := by
  obtain ⟨k, s, t, l⟩ := x
  have h1 := h.name
  have h2 := h.text
  have h3 := h.dice
  simp only at h1 h2 h3
  exact ⟨h.ok, show s.size < 2147483648 by omega, show t.size < 2147483648 by omega, show l.length < 2147483648 by omega, h.oks⟩
theorem SmallE.len {x : MEvent} (h : SmallE x) : (cEvent.enc x).length + 1 ≤ lim := by
  have h0 := event_len x
  have h1 := h.name
  have h2 := h.text
  have h3 := h.dice
  rw [List.length_cons] at h0
  unfold lim
  omega

/-- Two events that were cut, in two variables. -/
structure EvTwo (w : World) (B : Nat) (wx : World) : Prop where
  ex : ∃ (x y : MEvent) (xa ya : Option Addr) (xc yc : Nat), wx.heap[B]? = some (.cells #[.int .i64 x.1, .string x.2.1, .string x.2.2.1, .slice xa x.2.2.2.length xc] 44 (0, 0)) ∧
    wx.heap[B + 1]? = some (.cells #[.int .i64 y.1, .string y.2.1, .string y.2.2.1, .slice ya y.2.2.2.length yc] 44 (0, 0)) ∧
    LAt eI (fun b => b < w.heap.size) wx (.slice xa x.2.2.2.length xc) x.2.2.2 ∧ LAt eI (fun b => b < w.heap.size) wx (.slice ya y.2.2.2.length yc) y.2.2.2 ∧ SmallE x ∧ SmallE y ∧ Keep (fun _ => False) w wx

/-- Bytes that were answered. -/
def Got (w : World) (v : Value) (bs : List UInt8) : Prop := ∃ a n c, v = .slice a n c ∧ n = bs.length ∧ Seen w 1 (.slice a n c) n (bcells bs) ∧ ∀ b, own (.slice a n c) b → b < w.heap.size
theorem Got.keep {w w' : World} {v : Value} {bs : List UInt8} (h : Got w v bs) (k : Keep (fun _ => False) w w') : Got w' v bs := by
  obtain ⟨a, n, c, h1, h2, h3, h4⟩ := h
  exact ⟨a, n, c, h1, h2, h3.keep k (fun _ _ _ h => h), fun b hb => Nat.lt_of_lt_of_le (h4 b hb) k.size⟩
theorem Out.got {N : Nat → Prop} {w0 w : World} {v : Value} {bs : List UInt8} (h : Out N w0 w v bs) : Got w v bs := by
  obtain ⟨a, cap, hv, _, _⟩ := h.row.slice
  subst hv
  exact ⟨a, _, cap, rfl, rfl, h.row.seen, fun b hb => h.row.lt hb⟩

/-- Two events' bytes. -/
structure EvBytes (w6 : World) (x y : MEvent) (p q : Value) (wx : World) : Prop where
  fst : Got wx p (69 :: cEvent.enc x)
  snd : Got wx q (69 :: cEvent.enc y)
  keep : Keep (fun _ => False) w6 wx

set_option maxHeartbeats 8000000 in
theorem codecEvent_any (HEW : EqWorldSpec) {w : World} {k1 k2 : Int} {s1 s2 t1 t2 : ByteArray} {l1 l2 : List Int} {dv1 dv2 : Value} (hL1 : LAt eI (fun b => b < w.heap.size) w dv1 l1) (hL2 : LAt eI (fun b => b < w.heap.size) w dv2 l2) (r1 : rEvent (k1, s1, t1, l1)) (r2 : rEvent (k2, s2, t2, l2)) :
    Calls Try.prog 4 #[.agg #[.int .i64 k1, .string s1, .string t1, dv1], .agg #[.int .i64 k2, .string s2, .string t2, dv2]] w fun e w' => e = .returned (.bool true) ∧ Keep (fun _ => False) w w' := by
  obtain ⟨a1, c1, rfl, _⟩ := hL1.slice
  obtain ⟨a2, c2, rfl, _⟩ := hL2.slice
  have K2 : Hid (Keep (fun _ => False) w ((w.alloc (.cells #[.int .i64 k1, .string s1, .string t1, .slice a1 l1.length c1] 44)).alloc (.cells #[.int .i64 k2, .string s2, .string t2, .slice a2 l2.length c2] 44))) := Lib.hid (((Keep.refl _ w).alloc _).alloc _)
  have hA : ((w.alloc (.cells #[.int .i64 k1, .string s1, .string t1, .slice a1 l1.length c1] 44)).alloc (.cells #[.int .i64 k2, .string s2, .string t2, .slice a2 l2.length c2] 44)).heap[w.heap.size]? = some (.cells #[.int .i64 k1, .string s1, .string t1, .slice a1 l1.length c1] 44 (0, 0)) :=
    (((Keep.refl (fun _ => False) (w.alloc _)).alloc _).block _ (by rw [World.size_alloc]; omega) (fun h => h)).trans (heap_alloc_new w _)
  have hB : ((w.alloc (.cells #[.int .i64 k1, .string s1, .string t1, .slice a1 l1.length c1] 44)).alloc (.cells #[.int .i64 k2, .string s2, .string t2, .slice a2 l2.length c2] 44)).heap[w.heap.size + 1]? = some (.cells #[.int .i64 k2, .string s2, .string t2, .slice a2 l2.length c2] 44 (0, 0)) := by
    have h9 := heap_alloc_new (w.alloc (.cells #[.int .i64 k1, .string s1, .string t1, .slice a1 l1.length c1] 44)) (.cells #[.int .i64 k2, .string s2, .string t2, .slice a2 l2.length c2] 44)
    rwa [World.size_alloc] at h9
  have HA := Lib.hid hA
  have HB := Lib.hid hB
  have HL1 := Lib.hid hL1
  have HL2 := Lib.hid hL2
  have HR1 := Lib.hid r1
  have HR2 := Lib.hid r2
  obtain ⟨n1, hn1⟩ : ∃ n, n = l1.length := ⟨_, rfl⟩
  obtain ⟨n2, hn2⟩ : ∃ n, n = l2.length := ⟨_, rfl⟩
  rw [← hn1] at HA K2 HB HL1 ⊢
  rw [← hn2] at HA K2 HB HL2 ⊢
  clear hA hB hL1 hL2 r1 r2 hn1 hn2
  go_enter Try.func4, Try.ntmps4
  go_wp2_with fail
  generalize ((w.alloc (.cells #[.int .i64 k1, .string s1, .string t1, .slice a1 n1 c1] 44)).alloc (.cells #[.int .i64 k2, .string s2, .string t2, .slice a2 n2 c2] 44)) = w2 at *
  obtain ⟨B, hBB⟩ : ∃ B, B = w.heap.size := ⟨_, rfl⟩
  rw [← hBB] at HA HB ⊢
  have HBB := Lib.hid hBB
  clear hBB
  refine (begun_any HEW).mono ?_
  rintro e w3 ⟨rfl, hk3⟩
  have K3 := Lib.hid (K2.out.trans hk3 (fun _ h => h.elim))
  have HA3 := Lib.hid ((hk3.block _ (lt_of_block HA.out) (fun h => h)).trans HA.out)
  have HB3 := Lib.hid ((hk3.block _ (lt_of_block HB.out) (fun h => h)).trans HB.out)
  clear hk3
  go_upto_region 4 with (fail)
  go_cut [] from 14 to 17 (fun wx => EvTwo w B wx)
  case first =>
    have HC1 := Lib.hid (fun (w9 : World) (k9 : Keep (fun _ => False) w3 w9) => cutEvent_any (w := w9) (s := s1) (t := t1) ((HL1.out.keep K3.out (fun _ _ _ h => h)).keep k9 (fun _ _ _ h => h)) HR1.out.1 HR1.out.2)
    have HC2 := Lib.hid (fun (w9 : World) (k9 : Keep (fun _ => False) w3 w9) => cutEvent_any (w := w9) (s := s2) (t := t2) ((HL2.out.keep K3.out (fun _ _ _ h => h)).keep k9 (fun _ _ _ h => h)) HR2.out.1 HR2.out.2)
    have p0 : _ = some (Value.int .i64 k1) := (cell_of_row _ _ 0 _ _ _ HA3.out).trans rfl
    have p1 : _ = some (Value.string s1) := (cell_of_row _ _ 1 _ _ _ HA3.out).trans rfl
    have p2 : _ = some (Value.string t1) := (cell_of_row _ _ 2 _ _ _ HA3.out).trans rfl
    have p3 : _ = some (Value.slice a1 n1 c1) := (cell_of_row _ _ 3 _ _ _ HA3.out).trans rfl
    have q0 : _ = some (Value.int .i64 k2) := (cell_of_row _ _ 0 _ _ _ HB3.out).trans rfl
    have q1 : _ = some (Value.string s2) := (cell_of_row _ _ 1 _ _ _ HB3.out).trans rfl
    have q2 : _ = some (Value.string t2) := (cell_of_row _ _ 2 _ _ _ HB3.out).trans rfl
    have q3 : _ = some (Value.slice a2 n2 c2) := (cell_of_row _ _ 3 _ _ _ HB3.out).trans rfl
    go_region_with (first
      | (go_at_call 13; (with_reducible refine (HC1.out _ ((Keep.refl (fun _ => False) w3).drew)).mono ?_)
         rintro e w4 ⟨x, xd, rfl, xl, xs, hk4⟩
         have K4 := Lib.hid (((Keep.refl (fun _ => False) w3).drew).trans hk4 (fun _ h => h.elim))
         have XL := Lib.hid xl
         have XS := Lib.hid xs
         have HA4 := Lib.hid ((hk4.block _ (lt_of_block HA3.out) (fun h => h)).trans HA3.out)
         have HB4 := Lib.hid ((hk4.block _ (lt_of_block HB3.out) (fun h => h)).trans HB3.out)
         obtain ⟨xa, xc, rfl, _⟩ := xl.slice
         obtain ⟨x0, x1, x2, x3⟩ := x
         simp only
         clear xl xs hk4
         have q0 : _ = some (Value.int .i64 k2) := (cell_of_row _ _ 0 _ _ _ HB4.out).trans rfl
         have q1 : _ = some (Value.string s2) := (cell_of_row _ _ 1 _ _ _ HB4.out).trans rfl
         have q2 : _ = some (Value.string t2) := (cell_of_row _ _ 2 _ _ _ HB4.out).trans rfl
         have q3 : _ = some (Value.slice a2 n2 c2) := (cell_of_row _ _ 3 _ _ _ HB4.out).trans rfl)
      | (go_at_call 13; (with_reducible refine (HC2.out _ K4.out).mono ?_)
         rintro e w5 ⟨y, yd, rfl, yl, ys, hk5⟩
         have K5 := Lib.hid (K4.out.trans hk5 (fun _ h => h.elim))
         have YL := Lib.hid yl
         have YS := Lib.hid ys
         have XL5 := Lib.hid (XL.out.keep hk5 (fun _ _ _ h => h))
         have HA5 := Lib.hid ((hk5.block _ (lt_of_block HA4.out) (fun h => h)).trans HA4.out)
         have HB5 := Lib.hid ((hk5.block _ (lt_of_block HB4.out) (fun h => h)).trans HB4.out)
         obtain ⟨ya, yc, rfl, _⟩ := yl.slice
         obtain ⟨y0, y1, y2, y3⟩ := y
         simp only
         clear yl ys hk5
         have p0 : _ = some (Value.int .i64 k1) := (cell_of_row _ _ 0 _ _ _ HA5.out).trans rfl
         have p1 : _ = some (Value.string s1) := (cell_of_row _ _ 1 _ _ _ HA5.out).trans rfl
         have p2 : _ = some (Value.string t1) := (cell_of_row _ _ 2 _ _ _ HA5.out).trans rfl
         have p3 : _ = some (Value.slice a1 n1 c1) := (cell_of_row _ _ 3 _ _ _ HA5.out).trans rfl
         have q0 : _ = some (Value.int .i64 k2) := (cell_of_row _ _ 0 _ _ _ HB5.out).trans rfl
         have q1 : _ = some (Value.string s2) := (cell_of_row _ _ 1 _ _ _ HB5.out).trans rfl
         have q2 : _ = some (Value.string t2) := (cell_of_row _ _ 2 _ _ _ HB5.out).trans rfl
         have q3 : _ = some (Value.slice a2 n2 c2) := (cell_of_row _ _ 3 _ _ _ HB5.out).trans rfl
         have f0 := frozen_of_row w5 B 0 _ _ HA5.out
         have f1 := frozen_of_row w5 B 1 _ _ HA5.out
         have f2 := frozen_of_row w5 B 2 _ _ HA5.out
         have f3 := frozen_of_row w5 B 3 _ _ HA5.out
         have g0 := frozen_of_row w5 (B + 1) 0 _ _ HB5.out
         have g1 := frozen_of_row w5 (B + 1) 1 _ _ HB5.out
         have g2 := frozen_of_row w5 (B + 1) 2 _ _ HB5.out
         have g3 := frozen_of_row w5 (B + 1) 3 _ _ HB5.out))
    all_goals
      have k9 : Keep (fun b => b = B ∨ b = B + 1) w5 ((((((((w5.setCell ⟨B, 0, none⟩ (.int .i64 x0)).setCell ⟨B, 1, none⟩ (.string x1)).setCell ⟨B, 2, none⟩ (.string x2)).setCell ⟨B, 3, none⟩ (.slice xa x3.length xc)).setCell ⟨B + 1, 0, none⟩ (.int .i64 y0)).setCell ⟨B + 1, 1, none⟩ (.string y1)).setCell ⟨B + 1, 2, none⟩ (.string y2)).setCell ⟨B + 1, 3, none⟩ (.slice ya y3.length yc)) :=
        ((((((((Keep.refl (fun b => b = B ∨ b = B + 1) w5).setCell _ _ (.inl (.inl rfl))).setCell _ _ (.inl (.inl rfl))).setCell _ _ (.inl (.inl rfl))).setCell _ _ (.inl (.inl rfl))).setCell _ _ (.inl (.inr rfl))).setCell _ _ (.inl (.inr rfl))).setCell _ _ (.inl (.inr rfl))).setCell _ _ (.inl (.inr rfl))
      have hX : ((((((((w5.setCell ⟨B, 0, none⟩ (.int .i64 x0)).setCell ⟨B, 1, none⟩ (.string x1)).setCell ⟨B, 2, none⟩ (.string x2)).setCell ⟨B, 3, none⟩ (.slice xa x3.length xc)).setCell ⟨B + 1, 0, none⟩ (.int .i64 y0)).setCell ⟨B + 1, 1, none⟩ (.string y1)).setCell ⟨B + 1, 2, none⟩ (.string y2)).setCell ⟨B + 1, 3, none⟩ (.slice ya y3.length yc)).heap[B]? = some (.cells #[.int .i64 x0, .string x1, .string x2, .slice xa x3.length xc] 44 (0, 0)) := by
        rw [Below.heap_setCell _ _ _ _ (show B ≠ B + 1 by omega), Below.heap_setCell _ _ _ _ (show B ≠ B + 1 by omega), Below.heap_setCell _ _ _ _ (show B ≠ B + 1 by omega), Below.heap_setCell _ _ _ _ (show B ≠ B + 1 by omega)]
        exact (heap_setCell_at _ (heap_setCell_at _ (heap_setCell_at _ (heap_setCell_at _ HA5.out)))).trans rfl
      have hY0 : ((((w5.setCell ⟨B, 0, none⟩ (.int .i64 x0)).setCell ⟨B, 1, none⟩ (.string x1)).setCell ⟨B, 2, none⟩ (.string x2)).setCell ⟨B, 3, none⟩ (.slice xa x3.length xc)).heap[B + 1]? = _ :=
        (((((Keep.refl (fun b => b = B) w5).setCell _ _ (.inl rfl)).setCell _ _ (.inl rfl)).setCell _ _ (.inl rfl)).setCell _ _ (.inl rfl) : Keep (fun b => b = B) w5 ((((w5.setCell ⟨B, 0, none⟩ (.int .i64 x0)).setCell ⟨B, 1, none⟩ (.string x1)).setCell ⟨B, 2, none⟩ (.string x2)).setCell ⟨B, 3, none⟩ (.slice xa x3.length xc))).block _ (lt_of_block HB5.out) (by omega) |>.trans HB5.out
      have hY := (heap_setCell_at (i := 3) (.slice ya y3.length yc) (heap_setCell_at (i := 2) (.string y2) (heap_setCell_at (i := 1) (.string y1) (heap_setCell_at (i := 0) (.int .i64 y0) hY0)))).trans (rfl : _ = some (Obj.cells #[.int .i64 y0, .string y1, .string y2, .slice ya y3.length yc] 44 (0, 0)))
      have HE : Hid (EvTwo w B _) := Lib.hid ⟨(x0, x1, x2, x3), (y0, y1, y2, y3), xa, ya, xc, yc, hX, hY, XL5.out.keep k9 (fun b hb _ e => by have := HBB.out; omega), YL.out.keep k9 (fun b hb _ e => by have := HBB.out; omega), XS.out, YS.out, (K3.out.trans K5.out (fun _ h => h.elim)).trans k9 (fun b e => .inr (by have := HBB.out; omega))⟩
      go_wp2_with fail
      go_meet
      exact HE.out
  case rest =>
    obtain ⟨x, y, xa, ya, xc, yc, hX, hY, hxl, hyl, hxs, hys, hk⟩ := hcut.ex
    generalize wc = w6 at *
    have HX := Lib.hid hX
    have HY := Lib.hid hY
    have XL := Lib.hid hxl
    have YL := Lib.hid hyl
    have XS := Lib.hid hxs
    have YS := Lib.hid hys
    have HK := Lib.hid hk
    clear hcut hX hY hxl hyl hxs hys hk HA HB HA3 HB3 K3 HR1 HR2 HL1 HL2
    have HE1 := Lib.hid (fun (w9 : World) (k9 : Keep (fun _ => False) w6 w9) => event_any (w := w9) (x := x) (Pb := fun b => b < w.heap.size) (fun g hg => Nat.lt_of_lt_of_le hg (Nat.le_trans HK.out.size k9.size)) ⟨_, XL.out.keep k9 (fun _ _ _ h => h), rfl⟩ XS.out.okE XS.out.len)
    have HE2 := Lib.hid (fun (w9 : World) (k9 : Keep (fun _ => False) w6 w9) => event_any (w := w9) (x := y) (Pb := fun b => b < w.heap.size) (fun g hg => Nat.lt_of_lt_of_le hg (Nat.le_trans HK.out.size k9.size)) ⟨_, YL.out.keep k9 (fun _ _ _ h => h), rfl⟩ YS.out.okE YS.out.len)
    obtain ⟨x0, x1, x2, x3⟩ := x
    obtain ⟨y0, y1, y2, y3⟩ := y
    unfold struct_ at HE1 HE2
    simp only at HE1 HE2 HX HY XL YL
    go_upto_region 5 with (fail)
    go_cut [6, 7] from 18 to 21 (fun p q wx => EvBytes w6 (x0, x1, x2, x3) (y0, y1, y2, y3) p q wx)
    case first =>
      have p0 : _ = some (Value.int .i64 x0) := (cell_of_row _ _ 0 _ _ _ HX.out).trans rfl
      have p1 : _ = some (Value.string x1) := (cell_of_row _ _ 1 _ _ _ HX.out).trans rfl
      have p2 : _ = some (Value.string x2) := (cell_of_row _ _ 2 _ _ _ HX.out).trans rfl
      have p3 : _ = some (Value.slice xa x3.length xc) := (cell_of_row _ _ 3 _ _ _ HX.out).trans rfl
      have q0 : _ = some (Value.int .i64 y0) := (cell_of_row _ _ 0 _ _ _ HY.out).trans rfl
      have q1 : _ = some (Value.string y1) := (cell_of_row _ _ 1 _ _ _ HY.out).trans rfl
      have q2 : _ = some (Value.string y2) := (cell_of_row _ _ 2 _ _ _ HY.out).trans rfl
      have q3 : _ = some (Value.slice ya y3.length yc) := (cell_of_row _ _ 3 _ _ _ HY.out).trans rfl
      go_region_with (first
        | (go_at_call 14; (with_reducible refine (HE1.out _ ((Keep.refl (fun _ => False) w6).drew)).mono ?_)
           rintro e w4 ⟨ap, np, cp, rfl, hp⟩
           have HP := Lib.hid hp
           have K4 := Lib.hid (((Keep.refl (fun _ => False) w6).drew).trans hp.keep (fun _ h => h.elim))
           have HY4 := Lib.hid ((K4.out.block _ (lt_of_block HY.out) (fun h => h)).trans HY.out)
           clear hp
           have q0 : _ = some (Value.int .i64 y0) := (cell_of_row _ _ 0 _ _ _ HY4.out).trans rfl
           have q1 : _ = some (Value.string y1) := (cell_of_row _ _ 1 _ _ _ HY4.out).trans rfl
           have q2 : _ = some (Value.string y2) := (cell_of_row _ _ 2 _ _ _ HY4.out).trans rfl
           have q3 : _ = some (Value.slice ya y3.length yc) := (cell_of_row _ _ 3 _ _ _ HY4.out).trans rfl)
        | (go_at_call 14; (with_reducible refine (HE2.out _ K4.out).mono ?_)
           rintro e w5 ⟨aq, nq, cq, rfl, hq⟩
           have HB : Hid (EvBytes w6 (x0, x1, x2, x3) (y0, y1, y2, y3) (.slice ap np cp) (.slice aq nq cq) w5) := Lib.hid ⟨HP.out.got.keep hq.keep, hq.got, K4.out.trans hq.keep (fun _ h => h.elim)⟩
           clear hq))
      all_goals
        go_wp2_with fail
        go_meet
        exact HB.out
    case rest =>
      obtain ⟨hp, hq, hk7⟩ := hcut
      generalize wc = w7 at *
      obtain ⟨ap, np, cp, rfl, hnp, hsp, hop⟩ := hp
      obtain ⟨aq, nq, cq, rfl, hnq, hsq, hoq⟩ := hq
      have HP := Lib.hid hsp
      have HQ := Lib.hid hsq
      have HNP := Lib.hid hnp
      have HNQ := Lib.hid hnq
      have HK7 := Lib.hid hk7
      have HX7 := Lib.hid ((hk7.block _ (lt_of_block HX.out) (fun h => h)).trans HX.out)
      have HY7 := Lib.hid ((hk7.block _ (lt_of_block HY.out) (fun h => h)).trans HY.out)
      have HRD := Lib.hid (readEvent_any (bs := 69 :: cEvent.enc (x0, x1, x2, x3)) (by rw [← hnp]; exact hsp) hop)
      rw [whole_fwd 69 cEvent _ XS.out.okE] at HRD
      have hlen := event_len (x0, x1, x2, x3)
      rw [← hnp] at hlen
      have HLE : Hid ((np : Int) ≤ 64 + (x1.size : Int) + (x2.size : Int) + 10 * (x3.length : Int)) := Lib.hid (by simp only at hlen; omega)
      have hb1 := XS.out.name
      have hb2 := XS.out.text
      have hb3 := XS.out.dice
      simp only at hb1 hb2 hb3
      have hi1 : (x1.size : Int) ≤ 40 := by omega
      have hi2 : (x2.size : Int) ≤ 130 := by omega
      have hi3 : (x3.length : Int) ≤ 20 := by omega
      have HEQ : Hid ((69 :: cEvent.enc (x0, x1, x2, x3) = 69 :: cEvent.enc (y0, y1, y2, y3)) ↔ (x0, x1, x2, x3) = (y0, y1, y2, y3)) := Lib.hid (whole_inj 69 cEvent _ _ XS.out.okE YS.out.okE)
      clear hsp hop hsq hoq hk7 hlen hnp hnq hb1 hb2 hb3 HE1 HE2
      generalize 69 :: cEvent.enc (x0, x1, x2, x3) = bp at *
      generalize 69 :: cEvent.enc (y0, y1, y2, y3) = bq at *
      go_wp2_with fail
      refine HRD.out.mono ?_
      rintro e w8 r8
      obtain ⟨cs8, rfl, zd, hzl, hcs8⟩ := r8.some _ rfl
      have HK8 := Lib.hid r8.keep
      obtain ⟨za, zc, rfl, _⟩ := hzl.slice
      have ecs : cs8.toArray = #[.int .i64 x0, .string x1, .string x2, .slice za x3.length zc] := by rw [hcs8]
      rw [ecs]
      have KA := Lib.hid ((Keep.refl (fun _ => False) w8).alloc (.cells #[.int .i64 x0, .string x1, .string x2, .slice za x3.length zc] 44))
      have ZL9 := Lib.hid (hzl.keep KA.out (fun _ _ _ h => h))
      have HX9 := Lib.hid (((r8.keep.trans KA.out (fun _ h => h.elim)).block _ (lt_of_block HX7.out) (fun h => h)).trans HX7.out)
      have HY9 := Lib.hid (((r8.keep.trans KA.out (fun _ h => h.elim)).block _ (lt_of_block HY7.out) (fun h => h)).trans HY7.out)
      have HZ9 := Lib.hid (heap_alloc_new w8 (.cells #[.int .i64 x0, .string x1, .string x2, .slice za x3.length zc] 44))
      have K9 := Lib.hid ((HK7.out.trans r8.keep (fun _ h => h.elim)).trans KA.out (fun _ h => h.elim))
      have K79 := Lib.hid (r8.keep.trans KA.out (fun _ h => h.elim))
      clear hzl hcs8 r8 ecs KA HRD
      have p0 : _ = some (Value.int .i64 x0) := (cell_of_row _ _ 0 _ _ _ HX9.out).trans rfl
      have p1 : _ = some (Value.string x1) := (cell_of_row _ _ 1 _ _ _ HX9.out).trans rfl
      have p2 : _ = some (Value.string x2) := (cell_of_row _ _ 2 _ _ _ HX9.out).trans rfl
      have p3 : _ = some (Value.slice xa x3.length xc) := (cell_of_row _ _ 3 _ _ _ HX9.out).trans rfl
      have q0 : _ = some (Value.int .i64 y0) := (cell_of_row _ _ 0 _ _ _ HY9.out).trans rfl
      have q1 : _ = some (Value.string y1) := (cell_of_row _ _ 1 _ _ _ HY9.out).trans rfl
      have q2 : _ = some (Value.string y2) := (cell_of_row _ _ 2 _ _ _ HY9.out).trans rfl
      have q3 : _ = some (Value.slice ya y3.length yc) := (cell_of_row _ _ 3 _ _ _ HY9.out).trans rfl
      go_wp2_with fail
      generalize w8.alloc (.cells #[.int .i64 x0, .string x1, .string x2, .slice za x3.length zc] 44) = w9 at *
      generalize w8.heap.size = C8 at *
      have K7x9 := K79
      have K9x9 : Hid (Keep (fun _ => False) w9 w9) := Lib.hid (Keep.refl _ w9)
      have XL9 := Lib.hid ((XL.out.keep HK7.out (fun _ _ _ h => h)).keep K79.out (fun _ _ _ h => h))
      have YL9 := Lib.hid ((YL.out.keep HK7.out (fun _ _ _ h => h)).keep K79.out (fun _ _ _ h => h))
      refine (rEqEvent_any (x := (x0, x1, x2, x3)) (y := (y0, y1, y2, y3)) ⟨_, XL9.out, rfl⟩ ⟨_, YL9.out, rfl⟩).mono ?_
      rintro e w10 ⟨b1, rfl, hb1, hk10⟩
      have HB1 := Lib.hid hb1
      have K10 := Lib.hid (K9.out.trans hk10 (fun _ h => h.elim))
      have K7x10 := Lib.hid (K7x9.out.trans hk10 (fun _ h => h.elim))
      have K9x10 := Lib.hid (K9x9.out.trans hk10 (fun _ h => h.elim))
      have HX10 := Lib.hid ((hk10.block _ (lt_of_block HX9.out) (fun h => h)).trans HX9.out)
      have HY10 := Lib.hid ((hk10.block _ (lt_of_block HY9.out) (fun h => h)).trans HY9.out)
      have HZ10 := Lib.hid ((hk10.block _ (lt_of_block HZ9.out) (fun h => h)).trans HZ9.out)
      clear hb1 hk10 p0 p1 p2 p3 q0 q1 q2 q3
      have p0 : _ = some (Value.int .i64 x0) := (cell_of_row _ _ 0 _ _ _ HX10.out).trans rfl
      have p1 : _ = some (Value.string x1) := (cell_of_row _ _ 1 _ _ _ HX10.out).trans rfl
      have p2 : _ = some (Value.string x2) := (cell_of_row _ _ 2 _ _ _ HX10.out).trans rfl
      have p3 : _ = some (Value.slice xa x3.length xc) := (cell_of_row _ _ 3 _ _ _ HX10.out).trans rfl
      have q0 : _ = some (Value.int .i64 y0) := (cell_of_row _ _ 0 _ _ _ HY10.out).trans rfl
      have q1 : _ = some (Value.string y1) := (cell_of_row _ _ 1 _ _ _ HY10.out).trans rfl
      have q2 : _ = some (Value.string y2) := (cell_of_row _ _ 2 _ _ _ HY10.out).trans rfl
      have q3 : _ = some (Value.slice ya y3.length yc) := (cell_of_row _ _ 3 _ _ _ HY10.out).trans rfl
      have r0 : _ = some (Value.int .i64 x0) := (cell_of_row _ _ 0 _ _ _ HZ10.out).trans rfl
      have r1 : _ = some (Value.string x1) := (cell_of_row _ _ 1 _ _ _ HZ10.out).trans rfl
      have r2 : _ = some (Value.string x2) := (cell_of_row _ _ 2 _ _ _ HZ10.out).trans rfl
      have r3 : _ = some (Value.slice za x3.length zc) := (cell_of_row _ _ 3 _ _ _ HZ10.out).trans rfl
      go_wp2_with fail
      refine (rEqEvent_any (x := (x0, x1, x2, x3)) (y := (x0, x1, x2, x3)) ⟨_, XL9.out.keep K9x10.out (fun _ _ _ h => h), rfl⟩ ⟨_, ZL9.out.keep K9x10.out (fun _ _ _ h => h), rfl⟩).mono ?_
      rintro e w11 ⟨b2, rfl, hb2, hk11⟩
      have HB2 := Lib.hid hb2
      have K11 := Lib.hid (K10.out.trans hk11 (fun _ h => h.elim))
      have K7x11 := Lib.hid (K7x10.out.trans hk11 (fun _ h => h.elim))
      have K9x11 := Lib.hid (K9x10.out.trans hk11 (fun _ h => h.elim))
      have HX11 := Lib.hid ((hk11.block _ (lt_of_block HX10.out) (fun h => h)).trans HX10.out)
      have HY11 := Lib.hid ((hk11.block _ (lt_of_block HY10.out) (fun h => h)).trans HY10.out)
      have HZ11 := Lib.hid ((hk11.block _ (lt_of_block HZ10.out) (fun h => h)).trans HZ10.out)
      clear hb2 hk11 p0 p1 p2 p3 q0 q1 q2 q3 r0 r1 r2 r3
      obtain rfl : b2 = true := HB2.out.2 rfl
      have p0 : _ = some (Value.int .i64 x0) := (cell_of_row _ _ 0 _ _ _ HX11.out).trans rfl
      have p1 : _ = some (Value.string x1) := (cell_of_row _ _ 1 _ _ _ HX11.out).trans rfl
      have p2 : _ = some (Value.string x2) := (cell_of_row _ _ 2 _ _ _ HX11.out).trans rfl
      have p3 : _ = some (Value.slice xa x3.length xc) := (cell_of_row _ _ 3 _ _ _ HX11.out).trans rfl
      have q0 : _ = some (Value.int .i64 y0) := (cell_of_row _ _ 0 _ _ _ HY11.out).trans rfl
      have q1 : _ = some (Value.string y1) := (cell_of_row _ _ 1 _ _ _ HY11.out).trans rfl
      have q2 : _ = some (Value.string y2) := (cell_of_row _ _ 2 _ _ _ HY11.out).trans rfl
      have q3 : _ = some (Value.slice ya y3.length yc) := (cell_of_row _ _ 3 _ _ _ HY11.out).trans rfl
      go_wp2_with fail
      refine (eqEvent_any (x := (x0, x1, x2, x3)) (y := (y0, y1, y2, y3)) ⟨_, XL9.out.keep K9x11.out (fun _ _ _ h => h), rfl⟩ ⟨_, YL9.out.keep K9x11.out (fun _ _ _ h => h), rfl⟩).mono ?_
      rintro e w12 ⟨b3, rfl, hb3, hk12⟩
      have HB3 := Lib.hid hb3
      have K12 := Lib.hid (K11.out.trans hk12 (fun _ h => h.elim))
      have K7x12 := Lib.hid (K7x11.out.trans hk12 (fun _ h => h.elim))
      have K9x12 := Lib.hid (K9x11.out.trans hk12 (fun _ h => h.elim))
      have HX12 := Lib.hid ((hk12.block _ (lt_of_block HX11.out) (fun h => h)).trans HX11.out)
      have HY12 := Lib.hid ((hk12.block _ (lt_of_block HY11.out) (fun h => h)).trans HY11.out)
      have HZ12 := Lib.hid ((hk12.block _ (lt_of_block HZ11.out) (fun h => h)).trans HZ11.out)
      clear hb3 hk12 p0 p1 p2 p3 q0 q1 q2 q3
      have hb13 : b3 = b1 := by
        have h1 := HB1.out
        have h3 := HB3.out
        cases b1 <;> cases b3 <;> simp_all
      subst hb13
      have cv1 := seen_string (w := w12) HNP.out (HP.out.keep K7x12.out (fun _ _ _ h => h))
      have cv2 := seen_string (w := w12) HNQ.out (HQ.out.keep K7x12.out (fun _ _ _ h => h))
      have hst : (bp == bq) = b3 := by
        have h1 := HB3.out
        have h2 := HEQ.out
        cases hbb : b3 with
        | true =>
          rw [hbb] at h1
          rw [h2.2 (h1.1 rfl)]; simp
        | false =>
          rw [hbb] at h1
          have hne : ¬ bp = bq := fun e => by have := h1.2 (h2.1 e); cases this
          simp [hne]
      have hbb : (b3 == b3) = true := by cases b3 <;> rfl
      have HK12 := Lib.hid ((HK.out.trans K12.out (fun _ h => h.elim)))
      have HLL := HLE.out
      have p0 : _ = some (Value.int .i64 x0) := (cell_of_row _ _ 0 _ _ _ HX12.out).trans rfl
      have p1 : _ = some (Value.string x1) := (cell_of_row _ _ 1 _ _ _ HX12.out).trans rfl
      have p2 : _ = some (Value.string x2) := (cell_of_row _ _ 2 _ _ _ HX12.out).trans rfl
      have p3 : _ = some (Value.slice xa x3.length xc) := (cell_of_row _ _ 3 _ _ _ HX12.out).trans rfl
      have q0 : _ = some (Value.int .i64 y0) := (cell_of_row _ _ 0 _ _ _ HY12.out).trans rfl
      have q1 : _ = some (Value.string y1) := (cell_of_row _ _ 1 _ _ _ HY12.out).trans rfl
      have q2 : _ = some (Value.string y2) := (cell_of_row _ _ 2 _ _ _ HY12.out).trans rfl
      have q3 : _ = some (Value.slice ya y3.length yc) := (cell_of_row _ _ 3 _ _ _ HY12.out).trans rfl
      go_wp2_with fail
      go_ret
      exact ⟨rfl, HK12.out⟩

end Go.Proofs.Ytmibepjfbapbdaa.Cd
