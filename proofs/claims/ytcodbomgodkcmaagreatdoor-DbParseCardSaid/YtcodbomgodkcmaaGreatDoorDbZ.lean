/- World files: the program's addLine (made by tools/genal.py). -/
import Derived.Test.YtcodbomgodkcmaaGreatDoorDbJ
import Derived.Test.YtcodbomgodkcmaaGreatDoorLinO
namespace Go.Proofs.YtcodbomgodkcmaaGreatDoor.Wd
open Go.RowKit Go.Maps Go.Proofs.YtcodbomgodkcmaaGreatDoor Go.Proofs.YtcodbomgodkcmaaGreatDoor.Lin
set_option maxRecDepth 100000

theorem wordsGo_bound : ∀ (s cur : List UInt8), (∀ x ∈ wordsGo cur s, x.length ≤ cur.length + s.length) ∧ (wordsGo cur s).length ≤ s.length + 1
  | [], cur => by
    rw [wordsGo_end]
    split
    · simp
    · simp
  | c :: s, cur => by
    by_cases h : isBlank c = true
    · rw [wordsGo_blank h]
      obtain ⟨h1, h2⟩ := wordsGo_bound s []
      refine ⟨fun x hx => ?_, ?_⟩
      · rcases List.mem_append.1 hx with hx | hx
        · split at hx
          · simp at hx
          · simp at hx; subst hx; omega
        · have := h1 x hx; simp at this ⊢; omega
      · rw [List.length_append]; simp; split <;> simp <;> omega
    · rw [wordsGo_other (by simpa using h)]
      obtain ⟨h1, h2⟩ := wordsGo_bound s (cur ++ [c])
      exact ⟨fun x hx => by have := h1 x hx; simp at this ⊢; omega, by simp; omega⟩
theorem shortW_words {s : ByteArray} {h : List UInt8} {r : List (List UInt8)} (hs : s.size ≤ 1000000) (hw : wordsL s.data.toList = h :: r) : ShortW (txts r) ∧ (txts r).length ≤ 1000000 := by
  obtain ⟨h1, h2⟩ := wordsGo_bound s.data.toList []
  have e : s.data.toList.length = s.size := by simp
  constructor
  · intro x hx
    obtain ⟨y, hy, rfl⟩ := List.mem_map.1 hx
    have := h1 y (by show y ∈ wordsL s.data.toList; rw [hw]; simp [hy])
    show y.toArray.size ≤ _
    simp at this ⊢; omega
  · have : (wordsL s.data.toList).length ≤ s.data.toList.length + 1 := h2
    rw [hw] at this
    rw [txts_length]
    simp at this; omega

theorem hash_pre {s : ByteArray} (h : 1 ≤ s.size) : ((s.extract 0 1).toList == [35]) = decide (s.data.toList.head? = some 35) := by
  have e : (s.extract 0 1).toList = (s.data.toList.take 1) := by
    rw [ByteArray.toList_eq]; simp [ByteArray.data_extract]
  rw [e]
  have hl : s.data.toList.length = s.size := by simp
  match hs : s.data.toList, hl with
  | [], hl => simp at hl; omega
  | c :: r, _ =>
    rw [Bool.eq_iff_iff]
    simp
theorem liteHash_any {w : World} (s : ByteArray) (hs : s.size ≤ 1000000) : Calls Tryz.prog 95 #[.string s, .string ⟨#[35]⟩] w fun e w' => e = .returned (.bool (decide (s.data.toList.head? = some 35))) ∧ w = w' := by
  by_cases h0 : s.size = 0
  · have e : s = ⟨#[]⟩ := ByteArray.ext (Array.eq_empty_of_size_eq_zero h0)
    subst e
    go_enter Tryz.func95, Tryz.ntmps95
    go_wp2
    go_ret
    exact ⟨rfl, rfl⟩
  · have hp := hash_pre (s := s) (by omega)
    have d1 : decide (1 ≤ (s.size : Int)) = true := by rw [decide_eq_true_eq]; omega
    have hz : (1 : Int) ≤ (s.size : Int) := by omega
    have h1 : 1 ≤ s.size := by omega
    generalize decide (s.data.toList.head? = some 35) = z at *
    go_enter Tryz.func95, Tryz.ntmps95
    go_wp2
    go_ret
    exact ⟨rfl, rfl⟩
theorem hash_any {w : World} (s : ByteArray) (hs : s.size ≤ 1000000) : Calls Tryz.prog 40 #[.string s, .string ⟨#[35]⟩] w fun e w' => e = .returned (.bool (decide (s.data.toList.head? = some 35))) ∧ w = w' := by
  have HL := Lib.hid (liteHash_any (w := w) s hs)
  generalize decide (s.data.toList.head? = some 35) = z at *
  go_enter Tryz.func40, Tryz.ntmps40
  go_wp2_with (go_at_call 95; (with_reducible refine HL.out.mono ?_); rintro e w9 ⟨rfl, rfl⟩)
  go_ret
  exact ⟨rfl, rfl⟩

/-- A word is another: as the walk spells it. -/
theorem wordNe {s t : ByteArray} (h : s ≠ t) : (s.toList == t.data.toList) = false := by
  rw [ByteArray.toList_eq, beq_eq_false_iff_ne]
  intro e
  exact h (ByteArray.ext (Array.ext' e))
/-- A reader of the words behind the first. -/
theorem reader_new {w1 : World} {g off cap n : Nat} {h : ByteArray} {r : List ByteArray} (row : Row w1 9 1 (.slice (some ⟨g, off, none⟩) (n + 1) cap) (n + 1) (tcells (h :: r))) (hn : n = r.length) :
    RdAt (w1.alloc (.cells #[if cap = 1 then .slice (some ⟨g, off, none⟩) 0 0 else .slice (some ⟨g, off + 1, none⟩) n (cap - 1)] 101)) w1.heap.size r := by
  obtain ⟨_, _, hv, hc1, hc2⟩ := row.slice
  simp only [Value.slice.injEq] at hv
  obtain ⟨_, _, rfl⟩ := hv
  obtain ⟨cs, f, hty⟩ := row.type (b := g) rfl
  have hg := lt_of_block hty
  have hk : ∀ o, Keep (fun _ => False) w1 (w1.alloc o) := fun o => (Keep.refl _ w1).alloc o
  have hT : ∀ o, ∃ cs f, (w1.alloc o).heap[g]? = some (.cells cs 9 f) := fun o => ⟨cs, f, ((hk o).block g hg (fun h => h)).trans hty⟩
  refine ⟨_, heap_alloc_new w1 _, ?_, ?_⟩
  · split
    · have : r = [] := List.length_eq_zero_iff.1 (by omega)
      subst this
      exact ⟨rfl, _, _, rfl, by simp, by simp [maxLen], .inl rfl⟩
    · refine ⟨by simp [tcells], _, _, by rw [hn], by omega, by omega, .inr ⟨g, off + 1, rfl, Nat.lt_of_lt_of_le hg (hk _).size, fun j u hu => ?_⟩⟩
      rw [(hk _).cell hg (fun h => h), Nat.add_assoc]
      have hj : j < r.length := by have := (List.getElem?_eq_some_iff.1 hu).1; simpa [tcells] using this
      rw [row.cellAt (1 + j) (by omega), Nat.add_comm 1 j]
      simpa [tcells] using hu
  · intro b hb
    split at hb <;> (cases hb; exact hT _)

/-- A line is done, or is none. -/
def StepA (B : Nat → Prop) (w : World) (d : Nat) (o : Option DbM) (e : Ending) (w' : World) : Prop :=
  (∃ D' v1 v2 v3 v4 v5 v6 rr ss, o = some D' ∧ e = .returned (.bool true) ∧ DbO B w' d D' v1 v2 v3 v4 v5 v6 rr ss ∧ Keep (fun b => B b) w w') ∨
  (o = none ∧ e = .returned (.bool false) ∧ Keep (fun b => B b) w w')


set_option maxHeartbeats 2000000 in
theorem addNothing_any {w : World} {B : Nat → Prop} {d : Nat} {D : DbM} {v1 v2 v3 v4 v5 v6 : Value} {rr : List (RecM × Value)} {ss : List (ShopM × Value)} (ho : DbO B w d D v1 v2 v3 v4 v5 v6 rr ss) (s : ByteArray) (hs : s.size ≤ 1000000) (hw : wordsL s.data.toList = []) : Calls Tryz.prog 17 #[.pointer (some ⟨d, 0, none⟩), .string s] w (StepA B w d (some D)) := by
  have HO := Lib.hid ho
  have HWD := Lib.hid (words_any (w := w) s hs)
  rw [hw] at HWD
  clear ho hw hs
  go_enter Tryz.func17, Tryz.ntmps17
  go_wp2_with (go_at_call 39; (with_reducible refine HWD.out.mono ?_); rintro e w1 ⟨v, rfl, row, own, k1⟩; obtain ⟨va, vc, rfl, hvc1, hvc2⟩ := row.slice; unfold maxLen at hvc2; simp only [List.length_nil] at hvc1; have K1 := Lib.hid k1; clear row own k1)
  go_ret
  exact .inl ⟨_, _, _, _, _, _, _, _, _, rfl, rfl, HO.out.keep0 K1.out, K1.out.mono (fun _ _ h => h.elim)⟩

set_option maxHeartbeats 2000000 in
theorem addRemark_any {w : World} {B : Nat → Prop} {d : Nat} {D : DbM} {v1 v2 v3 v4 v5 v6 : Value} {rr : List (RecM × Value)} {ss : List (ShopM × Value)} (ho : DbO B w d D v1 v2 v3 v4 v5 v6 rr ss) (s : ByteArray) (hs : s.size ≤ 1000000) {h : List UInt8} {r : List (List UInt8)} (hw : wordsL s.data.toList = h :: r) (hh : s.data.toList.head? = some 35) : Calls Tryz.prog 17 #[.pointer (some ⟨d, 0, none⟩), .string s] w (StepA B w d (some D)) := by
  have HO := Lib.hid ho
  have HS := Lib.hid hs
  have HH : Hid (decide (s.data.toList.head? = some 35) = true) := Lib.hid (by simpa using hh)
  have HWD := Lib.hid (words_any (w := w) s hs)
  rw [hw] at HWD
  obtain ⟨n, hn⟩ : ∃ n, n = r.length := ⟨_, rfl⟩
  have hn2 : (h :: r).length = n + 1 := by rw [List.length_cons, hn]
  unfold AnsL at HWD
  rw [hn2] at HWD
  have hm1 : ((n + 1 : Nat) : Int) = (n : Int) + 1 := by omega
  have e9 : (((n : Int) + 1) == 0) = false := by rw [beq_eq_false_iff_ne]; omega
  clear ho hw hs hh hn hn2
  go_enter Tryz.func17, Tryz.ntmps17
  go_wp2_with (first
    | (go_at_call 39; (with_reducible refine HWD.out.mono ?_); rintro e w1 ⟨v, rfl, row, own, k1⟩; obtain ⟨va, vc, rfl, hvc1, hvc2⟩ := row.slice; unfold maxLen at hvc2; have K1 := Lib.hid k1; clear row own k1)
    | (go_at_call 40; (with_reducible refine (hash_any s HS.out).mono ?_); rintro e w9 ⟨rfl, rfl⟩; rw [HH.out]))
  go_ret
  exact .inl ⟨_, _, _, _, _, _, _, _, _, rfl, rfl, HO.out.keep0 K1.out, K1.out.mono (fun _ _ h => h.elim)⟩

set_option maxHeartbeats 4000000 in
theorem addLineRoom_any {w : World} {B : Nat → Prop} {d : Nat} {D : DbM} {v1 v2 v3 v4 v5 v6 : Value} {rr : List (RecM × Value)} {ss : List (ShopM × Value)} (ho : DbO B w d D v1 v2 v3 v4 v5 v6 rr ss) (s : ByteArray) (hs : s.size ≤ 1000000) (hT : T12B B w) {h : List UInt8} {r : List (List UInt8)} (hw : wordsL s.data.toList = h :: r) (hh : s.data.toList.head? ≠ some 35) (hword : (⟨h.toArray⟩ : ByteArray) = wRoom) (hnl : D.rooms.length ≤ 1000000) : Calls Tryz.prog 17 #[.pointer (some ⟨d, 0, none⟩), .string s] w (StepA B w d ((lineU ⟨h.toArray⟩ (txts r)).map (push D))) := by
  have HO := Lib.hid ho
  have HS := Lib.hid hs
  have HH : Hid (decide (s.data.toList.head? = some 35) = false) := Lib.hid (by simpa using hh)
  have HWD := Lib.hid (words_any (w := w) s hs)
  rw [hw] at HWD
  obtain ⟨hsw, hln⟩ := shortW_words hs hw
  have hbd : ∀ b, w.heap.size ≤ b → B b := ho.v.base.2
  obtain ⟨n, hn⟩ : ∃ n, n = (txts r).length := ⟨_, rfl⟩
  have hn2 : (h :: r).length = n + 1 := by rw [List.length_cons, hn, txts_length]
  have HADD : Hid (∀ (W2 : World) (p : Nat), RdAt W2 p (txts r) → Keep (fun _ => False) w W2 → w.heap.size ≤ p → Calls Tryz.prog 41 #[.pointer (some ⟨d, 0, none⟩), .pointer (some ⟨p, 0, none⟩), .func (.func 42) #[] #[], .func (.func 43) #[] #[]] W2 fun e w' => ∃ b, e = .returned (.bool b) ∧ StepA B w d ((lineU ⟨h.toArray⟩ (txts r)).map (push D)) (.returned (.bool b)) w') := Lib.hid (fun W2 p hrd hk hp => by
    refine (addRoom_any (ho.keep0 hk) hrd hsw (hT.keep hk (fun _ h => h.elim)) (hbd _ hp) hln hnl).mono fun e w' hA => ?_
    have hU : lineU ⟨h.toArray⟩ (txts r) = (if (txts r).drop 10 = [] ∧ okRoom (roomP (txts r)) = true then some (.room (roomP (txts r))) else none) := by
      rw [hword]; unfold lineU; rw [if_pos rfl]
    rcases hA with ⟨R, a1, a2, a3, a4, a5, a6, a7, a8, q1, rfl, q3, q4⟩ | ⟨q1, rfl, q3⟩
    · exact ⟨true, rfl, .inl ⟨_, _, _, _, _, _, _, _, _, by rw [hU, q1]; rfl, rfl, q3, (hk.mono (fun _ _ h => h.elim)).trans q4 (fun b hb => .inl hb)⟩⟩
    · exact ⟨false, rfl, .inr ⟨by rw [hU, q1]; rfl, rfl, (hk.mono (fun _ _ h => h.elim)).trans q3 (fun b hb => .inl hb)⟩⟩)
  have HWO := Lib.hid hword
  clear hword
  have HSC : Hid (scells (h :: r) = tcells (⟨h.toArray⟩ :: txts r)) := Lib.hid (by rw [txts_cells]; rfl)
  have HN := Lib.hid hn
  have HBD := Lib.hid hbd
  have HT := Lib.hid hT
  unfold AnsL at HWD
  rw [hn2] at HWD
  clear ho hw hs hh hn hT hsw hln hn2 hbd
  go_enter Tryz.func17, Tryz.ntmps17
  go_wp2_with (first
    | (go_at_call 39; (with_reducible refine HWD.out.mono ?_); rintro e w1 ⟨v, rfl, row, own, k1⟩; rw [HSC.out] at row; have RD := Lib.hid (fun (cap g off : Nat) (hrow : Row w1 9 1 (.slice (some ⟨g, off, none⟩) (n + 1) cap) (n + 1) (tcells (⟨h.toArray⟩ :: txts r))) => reader_new hrow HN.out); obtain ⟨g, off, cap, rfl, hc1, hc2⟩ := row.full (by omega); unfold maxLen at hc2; have c0 : w1.cell? ⟨g, off, none⟩ = some (.string ⟨h.toArray⟩) := (row.cellAt 0 (by omega)).trans rfl; have hgl : g < w1.heap.size := row.lt rfl; have hm1 : ((n + 1 : Nat) : Int) = (n : Int) + 1 := (by omega); have e9 : (((n : Int) + 1) == 0) = false := (by rw [beq_eq_false_iff_ne]; omega); have RD := Lib.hid (RD.out cap g off row); have K1 := Lib.hid k1; rw [HWO.out] at c0; clear row own k1; rcases Nat.eq_or_lt_of_le (show 1 ≤ cap by omega) with hcap | hcap <;> (first | (subst hcap; obtain rfl : n = 0 := (by omega); rw [if_pos rfl] at RD) | (rw [if_neg (by omega)] at RD)))
    | (go_at_call 40; (with_reducible refine (hash_any s HS.out).mono ?_); rintro e w9 ⟨rfl, rfl⟩; rw [HH.out])
    | (go_at_call 41; (refine (HADD.out _ _ RD.out (K1.out.alloc _) K1.out.size).mono ?_); rintro e w3 ⟨b, rfl, hb⟩; have HBB := Lib.hid hb; clear hb))
  all_goals go_ret
  all_goals exact HBB.out

set_option maxHeartbeats 4000000 in
theorem addLineProto_any {w : World} {B : Nat → Prop} {d : Nat} {D : DbM} {v1 v2 v3 v4 v5 v6 : Value} {rr : List (RecM × Value)} {ss : List (ShopM × Value)} (ho : DbO B w d D v1 v2 v3 v4 v5 v6 rr ss) (s : ByteArray) (hs : s.size ≤ 1000000) (hT : T12B B w) {h : List UInt8} {r : List (List UInt8)} (hw : wordsL s.data.toList = h :: r) (hh : s.data.toList.head? ≠ some 35) (hword : (⟨h.toArray⟩ : ByteArray) = wItem) (hnl : D.protos.length ≤ 1000000) : Calls Tryz.prog 17 #[.pointer (some ⟨d, 0, none⟩), .string s] w (StepA B w d ((lineU ⟨h.toArray⟩ (txts r)).map (push D))) := by
  have HO := Lib.hid ho
  have HS := Lib.hid hs
  have HH : Hid (decide (s.data.toList.head? = some 35) = false) := Lib.hid (by simpa using hh)
  have HWD := Lib.hid (words_any (w := w) s hs)
  rw [hw] at HWD
  obtain ⟨hsw, hln⟩ := shortW_words hs hw
  have hbd : ∀ b, w.heap.size ≤ b → B b := ho.v.base.2
  obtain ⟨n, hn⟩ : ∃ n, n = (txts r).length := ⟨_, rfl⟩
  have hn2 : (h :: r).length = n + 1 := by rw [List.length_cons, hn, txts_length]
  have HADD : Hid (∀ (W2 : World) (p : Nat), RdAt W2 p (txts r) → Keep (fun _ => False) w W2 → w.heap.size ≤ p → Calls Tryz.prog 44 #[.pointer (some ⟨d, 1, none⟩), .pointer (some ⟨p, 0, none⟩), .func (.func 45) #[] #[], .func (.func 46) #[] #[]] W2 fun e w' => ∃ b, e = .returned (.bool b) ∧ StepA B w d ((lineU ⟨h.toArray⟩ (txts r)).map (push D)) (.returned (.bool b)) w') := Lib.hid (fun W2 p hrd hk hp => by
    refine (addProto_any (ho.keep0 hk) hrd hsw (hT.keep hk (fun _ h => h.elim)) (hbd _ hp) hln hnl).mono fun e w' hA => ?_
    have hU : lineU ⟨h.toArray⟩ (txts r) = (if (txts r).drop 5 = [] ∧ okProto (protoP (txts r)) = true then some (.proto (protoP (txts r))) else none) := by
      rw [hword]; unfold lineU; rw [if_neg (by decide)]; rw [if_pos rfl]
    rcases hA with ⟨R, a1, a2, a3, a4, a5, a6, a7, a8, q1, rfl, q3, q4⟩ | ⟨q1, rfl, q3⟩
    · exact ⟨true, rfl, .inl ⟨_, _, _, _, _, _, _, _, _, by rw [hU, q1]; rfl, rfl, q3, (hk.mono (fun _ _ h => h.elim)).trans q4 (fun b hb => .inl hb)⟩⟩
    · exact ⟨false, rfl, .inr ⟨by rw [hU, q1]; rfl, rfl, (hk.mono (fun _ _ h => h.elim)).trans q3 (fun b hb => .inl hb)⟩⟩)
  have HWO := Lib.hid hword
  clear hword
  have HSC : Hid (scells (h :: r) = tcells (⟨h.toArray⟩ :: txts r)) := Lib.hid (by rw [txts_cells]; rfl)
  have HN := Lib.hid hn
  have HBD := Lib.hid hbd
  have HT := Lib.hid hT
  unfold AnsL at HWD
  rw [hn2] at HWD
  clear ho hw hs hh hn hT hsw hln hn2 hbd
  go_enter Tryz.func17, Tryz.ntmps17
  go_wp2_with (first
    | (go_at_call 39; (with_reducible refine HWD.out.mono ?_); rintro e w1 ⟨v, rfl, row, own, k1⟩; rw [HSC.out] at row; have RD := Lib.hid (fun (cap g off : Nat) (hrow : Row w1 9 1 (.slice (some ⟨g, off, none⟩) (n + 1) cap) (n + 1) (tcells (⟨h.toArray⟩ :: txts r))) => reader_new hrow HN.out); obtain ⟨g, off, cap, rfl, hc1, hc2⟩ := row.full (by omega); unfold maxLen at hc2; have c0 : w1.cell? ⟨g, off, none⟩ = some (.string ⟨h.toArray⟩) := (row.cellAt 0 (by omega)).trans rfl; have hgl : g < w1.heap.size := row.lt rfl; have hm1 : ((n + 1 : Nat) : Int) = (n : Int) + 1 := (by omega); have e9 : (((n : Int) + 1) == 0) = false := (by rw [beq_eq_false_iff_ne]; omega); have RD := Lib.hid (RD.out cap g off row); have K1 := Lib.hid k1; rw [HWO.out] at c0; clear row own k1; rcases Nat.eq_or_lt_of_le (show 1 ≤ cap by omega) with hcap | hcap <;> (first | (subst hcap; obtain rfl : n = 0 := (by omega); rw [if_pos rfl] at RD) | (rw [if_neg (by omega)] at RD)))
    | (go_at_call 40; (with_reducible refine (hash_any s HS.out).mono ?_); rintro e w9 ⟨rfl, rfl⟩; rw [HH.out])
    | (go_at_call 44; (refine (HADD.out _ _ RD.out (K1.out.alloc _) K1.out.size).mono ?_); rintro e w3 ⟨b, rfl, hb⟩; have HBB := Lib.hid hb; clear hb))
  all_goals go_ret
  all_goals exact HBB.out

set_option maxHeartbeats 4000000 in
theorem addLineMob_any {w : World} {B : Nat → Prop} {d : Nat} {D : DbM} {v1 v2 v3 v4 v5 v6 : Value} {rr : List (RecM × Value)} {ss : List (ShopM × Value)} (ho : DbO B w d D v1 v2 v3 v4 v5 v6 rr ss) (s : ByteArray) (hs : s.size ≤ 1000000) (hT : T12B B w) {h : List UInt8} {r : List (List UInt8)} (hw : wordsL s.data.toList = h :: r) (hh : s.data.toList.head? ≠ some 35) (hword : (⟨h.toArray⟩ : ByteArray) = wMob) (hnl : D.mobs.length ≤ 1000000) : Calls Tryz.prog 17 #[.pointer (some ⟨d, 0, none⟩), .string s] w (StepA B w d ((lineU ⟨h.toArray⟩ (txts r)).map (push D))) := by
  have HO := Lib.hid ho
  have HS := Lib.hid hs
  have HH : Hid (decide (s.data.toList.head? = some 35) = false) := Lib.hid (by simpa using hh)
  have HWD := Lib.hid (words_any (w := w) s hs)
  rw [hw] at HWD
  obtain ⟨hsw, hln⟩ := shortW_words hs hw
  have hbd : ∀ b, w.heap.size ≤ b → B b := ho.v.base.2
  obtain ⟨n, hn⟩ : ∃ n, n = (txts r).length := ⟨_, rfl⟩
  have hn2 : (h :: r).length = n + 1 := by rw [List.length_cons, hn, txts_length]
  have HADD : Hid (∀ (W2 : World) (p : Nat), RdAt W2 p (txts r) → Keep (fun _ => False) w W2 → w.heap.size ≤ p → Calls Tryz.prog 47 #[.pointer (some ⟨d, 2, none⟩), .pointer (some ⟨p, 0, none⟩), .func (.func 48) #[] #[], .func (.func 49) #[] #[]] W2 fun e w' => ∃ b, e = .returned (.bool b) ∧ StepA B w d ((lineU ⟨h.toArray⟩ (txts r)).map (push D)) (.returned (.bool b)) w') := Lib.hid (fun W2 p hrd hk hp => by
    refine (addMob_any (ho.keep0 hk) hrd hsw (hT.keep hk (fun _ h => h.elim)) (hbd _ hp) hln hnl).mono fun e w' hA => ?_
    have hU : lineU ⟨h.toArray⟩ (txts r) = (if (txts r).drop 7 = [] ∧ okMobP (mobP (txts r)) = true then some (.mob (mobP (txts r))) else none) := by
      rw [hword]; unfold lineU; rw [if_neg (by decide)]; rw [if_neg (by decide)]; rw [if_pos rfl]
    rcases hA with ⟨R, a1, a2, a3, a4, a5, a6, a7, a8, q1, rfl, q3, q4⟩ | ⟨q1, rfl, q3⟩
    · exact ⟨true, rfl, .inl ⟨_, _, _, _, _, _, _, _, _, by rw [hU, q1]; rfl, rfl, q3, (hk.mono (fun _ _ h => h.elim)).trans q4 (fun b hb => .inl hb)⟩⟩
    · exact ⟨false, rfl, .inr ⟨by rw [hU, q1]; rfl, rfl, (hk.mono (fun _ _ h => h.elim)).trans q3 (fun b hb => .inl hb)⟩⟩)
  have HWO := Lib.hid hword
  clear hword
  have HSC : Hid (scells (h :: r) = tcells (⟨h.toArray⟩ :: txts r)) := Lib.hid (by rw [txts_cells]; rfl)
  have HN := Lib.hid hn
  have HBD := Lib.hid hbd
  have HT := Lib.hid hT
  unfold AnsL at HWD
  rw [hn2] at HWD
  clear ho hw hs hh hn hT hsw hln hn2 hbd
  go_enter Tryz.func17, Tryz.ntmps17
  go_wp2_with (first
    | (go_at_call 39; (with_reducible refine HWD.out.mono ?_); rintro e w1 ⟨v, rfl, row, own, k1⟩; rw [HSC.out] at row; have RD := Lib.hid (fun (cap g off : Nat) (hrow : Row w1 9 1 (.slice (some ⟨g, off, none⟩) (n + 1) cap) (n + 1) (tcells (⟨h.toArray⟩ :: txts r))) => reader_new hrow HN.out); obtain ⟨g, off, cap, rfl, hc1, hc2⟩ := row.full (by omega); unfold maxLen at hc2; have c0 : w1.cell? ⟨g, off, none⟩ = some (.string ⟨h.toArray⟩) := (row.cellAt 0 (by omega)).trans rfl; have hgl : g < w1.heap.size := row.lt rfl; have hm1 : ((n + 1 : Nat) : Int) = (n : Int) + 1 := (by omega); have e9 : (((n : Int) + 1) == 0) = false := (by rw [beq_eq_false_iff_ne]; omega); have RD := Lib.hid (RD.out cap g off row); have K1 := Lib.hid k1; rw [HWO.out] at c0; clear row own k1; rcases Nat.eq_or_lt_of_le (show 1 ≤ cap by omega) with hcap | hcap <;> (first | (subst hcap; obtain rfl : n = 0 := (by omega); rw [if_pos rfl] at RD) | (rw [if_neg (by omega)] at RD)))
    | (go_at_call 40; (with_reducible refine (hash_any s HS.out).mono ?_); rintro e w9 ⟨rfl, rfl⟩; rw [HH.out])
    | (go_at_call 47; (refine (HADD.out _ _ RD.out (K1.out.alloc _) K1.out.size).mono ?_); rintro e w3 ⟨b, rfl, hb⟩; have HBB := Lib.hid hb; clear hb))
  all_goals go_ret
  all_goals exact HBB.out

set_option maxHeartbeats 4000000 in
theorem addLineRec_any {w : World} {B : Nat → Prop} {d : Nat} {D : DbM} {v1 v2 v3 v4 v5 v6 : Value} {rr : List (RecM × Value)} {ss : List (ShopM × Value)} (ho : DbO B w d D v1 v2 v3 v4 v5 v6 rr ss) (s : ByteArray) (hs : s.size ≤ 1000000) (hT : T12B B w) {h : List UInt8} {r : List (List UInt8)} (hw : wordsL s.data.toList = h :: r) (hh : s.data.toList.head? ≠ some 35) (hword : (⟨h.toArray⟩ : ByteArray) = wRecipe) (hnl : D.recs.length ≤ 1000000) : Calls Tryz.prog 17 #[.pointer (some ⟨d, 0, none⟩), .string s] w (StepA B w d ((lineU ⟨h.toArray⟩ (txts r)).map (push D))) := by
  have HO := Lib.hid ho
  have HS := Lib.hid hs
  have HH : Hid (decide (s.data.toList.head? = some 35) = false) := Lib.hid (by simpa using hh)
  have HWD := Lib.hid (words_any (w := w) s hs)
  rw [hw] at HWD
  obtain ⟨hsw, hln⟩ := shortW_words hs hw
  have hbd : ∀ b, w.heap.size ≤ b → B b := ho.v.base.2
  obtain ⟨n, hn⟩ : ∃ n, n = (txts r).length := ⟨_, rfl⟩
  have hn2 : (h :: r).length = n + 1 := by rw [List.length_cons, hn, txts_length]
  have HADD : Hid (∀ (W2 : World) (p : Nat), RdAt W2 p (txts r) → Keep (fun _ => False) w W2 → w.heap.size ≤ p → Calls Tryz.prog 50 #[.pointer (some ⟨d, 3, none⟩), .pointer (some ⟨p, 0, none⟩), .func (.func 51) #[] #[], .func (.func 52) #[] #[]] W2 fun e w' => ∃ b, e = .returned (.bool b) ∧ StepA B w d ((lineU ⟨h.toArray⟩ (txts r)).map (push D)) (.returned (.bool b)) w') := Lib.hid (fun W2 p hrd hk hp => by
    refine (addRec_any (ho.keep0 hk) hrd hsw (hT.keep hk (fun _ h => h.elim)) (hbd _ hp) hln hnl).mono fun e w' hA => ?_
    have hU : lineU ⟨h.toArray⟩ (txts r) = (if okRecU (recP (txts r)) = true then some (.recipe (recP (txts r))) else none) := by
      rw [hword]; unfold lineU; rw [if_neg (by decide)]; rw [if_neg (by decide)]; rw [if_neg (by decide)]; rw [if_pos rfl]
    rcases hA with ⟨R, a1, a2, a3, a4, a5, a6, a7, a8, q1, rfl, q3, q4⟩ | ⟨q1, rfl, q3⟩
    · exact ⟨true, rfl, .inl ⟨_, _, _, _, _, _, _, _, _, by rw [hU, q1]; rfl, rfl, q3, (hk.mono (fun _ _ h => h.elim)).trans q4 (fun b hb => .inl hb)⟩⟩
    · exact ⟨false, rfl, .inr ⟨by rw [hU, q1]; rfl, rfl, (hk.mono (fun _ _ h => h.elim)).trans q3 (fun b hb => .inl hb)⟩⟩)
  have HWO := Lib.hid hword
  clear hword
  have HSC : Hid (scells (h :: r) = tcells (⟨h.toArray⟩ :: txts r)) := Lib.hid (by rw [txts_cells]; rfl)
  have HN := Lib.hid hn
  have HBD := Lib.hid hbd
  have HT := Lib.hid hT
  unfold AnsL at HWD
  rw [hn2] at HWD
  clear ho hw hs hh hn hT hsw hln hn2 hbd
  go_enter Tryz.func17, Tryz.ntmps17
  go_wp2_with (first
    | (go_at_call 39; (with_reducible refine HWD.out.mono ?_); rintro e w1 ⟨v, rfl, row, own, k1⟩; rw [HSC.out] at row; have RD := Lib.hid (fun (cap g off : Nat) (hrow : Row w1 9 1 (.slice (some ⟨g, off, none⟩) (n + 1) cap) (n + 1) (tcells (⟨h.toArray⟩ :: txts r))) => reader_new hrow HN.out); obtain ⟨g, off, cap, rfl, hc1, hc2⟩ := row.full (by omega); unfold maxLen at hc2; have c0 : w1.cell? ⟨g, off, none⟩ = some (.string ⟨h.toArray⟩) := (row.cellAt 0 (by omega)).trans rfl; have hgl : g < w1.heap.size := row.lt rfl; have hm1 : ((n + 1 : Nat) : Int) = (n : Int) + 1 := (by omega); have e9 : (((n : Int) + 1) == 0) = false := (by rw [beq_eq_false_iff_ne]; omega); have RD := Lib.hid (RD.out cap g off row); have K1 := Lib.hid k1; rw [HWO.out] at c0; clear row own k1; rcases Nat.eq_or_lt_of_le (show 1 ≤ cap by omega) with hcap | hcap <;> (first | (subst hcap; obtain rfl : n = 0 := (by omega); rw [if_pos rfl] at RD) | (rw [if_neg (by omega)] at RD)))
    | (go_at_call 40; (with_reducible refine (hash_any s HS.out).mono ?_); rintro e w9 ⟨rfl, rfl⟩; rw [HH.out])
    | (go_at_call 50; (refine (HADD.out _ _ RD.out (K1.out.alloc _) K1.out.size).mono ?_); rintro e w3 ⟨b, rfl, hb⟩; have HBB := Lib.hid hb; clear hb))
  all_goals go_ret
  all_goals exact HBB.out

set_option maxHeartbeats 4000000 in
theorem addLineQuest_any {w : World} {B : Nat → Prop} {d : Nat} {D : DbM} {v1 v2 v3 v4 v5 v6 : Value} {rr : List (RecM × Value)} {ss : List (ShopM × Value)} (ho : DbO B w d D v1 v2 v3 v4 v5 v6 rr ss) (s : ByteArray) (hs : s.size ≤ 1000000) (hT : T12B B w) {h : List UInt8} {r : List (List UInt8)} (hw : wordsL s.data.toList = h :: r) (hh : s.data.toList.head? ≠ some 35) (hword : (⟨h.toArray⟩ : ByteArray) = wQuest) (hnl : D.quests.length ≤ 1000000) : Calls Tryz.prog 17 #[.pointer (some ⟨d, 0, none⟩), .string s] w (StepA B w d ((lineU ⟨h.toArray⟩ (txts r)).map (push D))) := by
  have HO := Lib.hid ho
  have HS := Lib.hid hs
  have HH : Hid (decide (s.data.toList.head? = some 35) = false) := Lib.hid (by simpa using hh)
  have HWD := Lib.hid (words_any (w := w) s hs)
  rw [hw] at HWD
  obtain ⟨hsw, hln⟩ := shortW_words hs hw
  have hbd : ∀ b, w.heap.size ≤ b → B b := ho.v.base.2
  obtain ⟨n, hn⟩ : ∃ n, n = (txts r).length := ⟨_, rfl⟩
  have hn2 : (h :: r).length = n + 1 := by rw [List.length_cons, hn, txts_length]
  have HADD : Hid (∀ (W2 : World) (p : Nat), RdAt W2 p (txts r) → Keep (fun _ => False) w W2 → w.heap.size ≤ p → Calls Tryz.prog 53 #[.pointer (some ⟨d, 4, none⟩), .pointer (some ⟨p, 0, none⟩), .func (.func 54) #[] #[], .func (.func 55) #[] #[]] W2 fun e w' => ∃ b, e = .returned (.bool b) ∧ StepA B w d ((lineU ⟨h.toArray⟩ (txts r)).map (push D)) (.returned (.bool b)) w') := Lib.hid (fun W2 p hrd hk hp => by
    refine (addQuest_any (ho.keep0 hk) hrd hsw (hT.keep hk (fun _ h => h.elim)) (hbd _ hp) hln hnl).mono fun e w' hA => ?_
    have hU : lineU ⟨h.toArray⟩ (txts r) = (if (txts r).drop 5 = [] ∧ okQuest (questP (txts r)) = true then some (.quest (questP (txts r))) else none) := by
      rw [hword]; unfold lineU; rw [if_neg (by decide)]; rw [if_neg (by decide)]; rw [if_neg (by decide)]; rw [if_neg (by decide)]; rw [if_pos rfl]
    rcases hA with ⟨R, a1, a2, a3, a4, a5, a6, a7, a8, q1, rfl, q3, q4⟩ | ⟨q1, rfl, q3⟩
    · exact ⟨true, rfl, .inl ⟨_, _, _, _, _, _, _, _, _, by rw [hU, q1]; rfl, rfl, q3, (hk.mono (fun _ _ h => h.elim)).trans q4 (fun b hb => .inl hb)⟩⟩
    · exact ⟨false, rfl, .inr ⟨by rw [hU, q1]; rfl, rfl, (hk.mono (fun _ _ h => h.elim)).trans q3 (fun b hb => .inl hb)⟩⟩)
  have HWO := Lib.hid hword
  clear hword
  have HSC : Hid (scells (h :: r) = tcells (⟨h.toArray⟩ :: txts r)) := Lib.hid (by rw [txts_cells]; rfl)
  have HN := Lib.hid hn
  have HBD := Lib.hid hbd
  have HT := Lib.hid hT
  unfold AnsL at HWD
  rw [hn2] at HWD
  clear ho hw hs hh hn hT hsw hln hn2 hbd
  go_enter Tryz.func17, Tryz.ntmps17
  go_wp2_with (first
    | (go_at_call 39; (with_reducible refine HWD.out.mono ?_); rintro e w1 ⟨v, rfl, row, own, k1⟩; rw [HSC.out] at row; have RD := Lib.hid (fun (cap g off : Nat) (hrow : Row w1 9 1 (.slice (some ⟨g, off, none⟩) (n + 1) cap) (n + 1) (tcells (⟨h.toArray⟩ :: txts r))) => reader_new hrow HN.out); obtain ⟨g, off, cap, rfl, hc1, hc2⟩ := row.full (by omega); unfold maxLen at hc2; have c0 : w1.cell? ⟨g, off, none⟩ = some (.string ⟨h.toArray⟩) := (row.cellAt 0 (by omega)).trans rfl; have hgl : g < w1.heap.size := row.lt rfl; have hm1 : ((n + 1 : Nat) : Int) = (n : Int) + 1 := (by omega); have e9 : (((n : Int) + 1) == 0) = false := (by rw [beq_eq_false_iff_ne]; omega); have RD := Lib.hid (RD.out cap g off row); have K1 := Lib.hid k1; rw [HWO.out] at c0; clear row own k1; rcases Nat.eq_or_lt_of_le (show 1 ≤ cap by omega) with hcap | hcap <;> (first | (subst hcap; obtain rfl : n = 0 := (by omega); rw [if_pos rfl] at RD) | (rw [if_neg (by omega)] at RD)))
    | (go_at_call 40; (with_reducible refine (hash_any s HS.out).mono ?_); rintro e w9 ⟨rfl, rfl⟩; rw [HH.out])
    | (go_at_call 53; (refine (HADD.out _ _ RD.out (K1.out.alloc _) K1.out.size).mono ?_); rintro e w3 ⟨b, rfl, hb⟩; have HBB := Lib.hid hb; clear hb))
  all_goals go_ret
  all_goals exact HBB.out

set_option maxHeartbeats 4000000 in
theorem addLineShop_any {w : World} {B : Nat → Prop} {d : Nat} {D : DbM} {v1 v2 v3 v4 v5 v6 : Value} {rr : List (RecM × Value)} {ss : List (ShopM × Value)} (ho : DbO B w d D v1 v2 v3 v4 v5 v6 rr ss) (s : ByteArray) (hs : s.size ≤ 1000000) (hT : T12B B w) {h : List UInt8} {r : List (List UInt8)} (hw : wordsL s.data.toList = h :: r) (hh : s.data.toList.head? ≠ some 35) (hword : (⟨h.toArray⟩ : ByteArray) = wShop) (hnl : D.shops.length ≤ 1000000) : Calls Tryz.prog 17 #[.pointer (some ⟨d, 0, none⟩), .string s] w (StepA B w d ((lineU ⟨h.toArray⟩ (txts r)).map (push D))) := by
  have HO := Lib.hid ho
  have HS := Lib.hid hs
  have HH : Hid (decide (s.data.toList.head? = some 35) = false) := Lib.hid (by simpa using hh)
  have HWD := Lib.hid (words_any (w := w) s hs)
  rw [hw] at HWD
  obtain ⟨hsw, hln⟩ := shortW_words hs hw
  have hbd : ∀ b, w.heap.size ≤ b → B b := ho.v.base.2
  obtain ⟨n, hn⟩ : ∃ n, n = (txts r).length := ⟨_, rfl⟩
  have hn2 : (h :: r).length = n + 1 := by rw [List.length_cons, hn, txts_length]
  have HADD : Hid (∀ (W2 : World) (p : Nat), RdAt W2 p (txts r) → Keep (fun _ => False) w W2 → w.heap.size ≤ p → Calls Tryz.prog 56 #[.pointer (some ⟨d, 5, none⟩), .pointer (some ⟨p, 0, none⟩), .func (.func 57) #[] #[], .func (.func 58) #[] #[]] W2 fun e w' => ∃ b, e = .returned (.bool b) ∧ StepA B w d ((lineU ⟨h.toArray⟩ (txts r)).map (push D)) (.returned (.bool b)) w') := Lib.hid (fun W2 p hrd hk hp => by
    refine (addShop_any (ho.keep0 hk) hrd hsw (hT.keep hk (fun _ h => h.elim)) (hbd _ hp) hln hnl).mono fun e w' hA => ?_
    have hU : lineU ⟨h.toArray⟩ (txts r) = (if okShopU (shopP (txts r)) = true then some (.shop (shopP (txts r))) else none) := by
      rw [hword]; unfold lineU; rw [if_neg (by decide)]; rw [if_neg (by decide)]; rw [if_neg (by decide)]; rw [if_neg (by decide)]; rw [if_neg (by decide)]; rw [if_pos rfl]
    rcases hA with ⟨R, a1, a2, a3, a4, a5, a6, a7, a8, q1, rfl, q3, q4⟩ | ⟨q1, rfl, q3⟩
    · exact ⟨true, rfl, .inl ⟨_, _, _, _, _, _, _, _, _, by rw [hU, q1]; rfl, rfl, q3, (hk.mono (fun _ _ h => h.elim)).trans q4 (fun b hb => .inl hb)⟩⟩
    · exact ⟨false, rfl, .inr ⟨by rw [hU, q1]; rfl, rfl, (hk.mono (fun _ _ h => h.elim)).trans q3 (fun b hb => .inl hb)⟩⟩)
  have HWO := Lib.hid hword
  clear hword
  have HSC : Hid (scells (h :: r) = tcells (⟨h.toArray⟩ :: txts r)) := Lib.hid (by rw [txts_cells]; rfl)
  have HN := Lib.hid hn
  have HBD := Lib.hid hbd
  have HT := Lib.hid hT
  unfold AnsL at HWD
  rw [hn2] at HWD
  clear ho hw hs hh hn hT hsw hln hn2 hbd
  go_enter Tryz.func17, Tryz.ntmps17
  go_wp2_with (first
    | (go_at_call 39; (with_reducible refine HWD.out.mono ?_); rintro e w1 ⟨v, rfl, row, own, k1⟩; rw [HSC.out] at row; have RD := Lib.hid (fun (cap g off : Nat) (hrow : Row w1 9 1 (.slice (some ⟨g, off, none⟩) (n + 1) cap) (n + 1) (tcells (⟨h.toArray⟩ :: txts r))) => reader_new hrow HN.out); obtain ⟨g, off, cap, rfl, hc1, hc2⟩ := row.full (by omega); unfold maxLen at hc2; have c0 : w1.cell? ⟨g, off, none⟩ = some (.string ⟨h.toArray⟩) := (row.cellAt 0 (by omega)).trans rfl; have hgl : g < w1.heap.size := row.lt rfl; have hm1 : ((n + 1 : Nat) : Int) = (n : Int) + 1 := (by omega); have e9 : (((n : Int) + 1) == 0) = false := (by rw [beq_eq_false_iff_ne]; omega); have RD := Lib.hid (RD.out cap g off row); have K1 := Lib.hid k1; rw [HWO.out] at c0; clear row own k1; rcases Nat.eq_or_lt_of_le (show 1 ≤ cap by omega) with hcap | hcap <;> (first | (subst hcap; obtain rfl : n = 0 := (by omega); rw [if_pos rfl] at RD) | (rw [if_neg (by omega)] at RD)))
    | (go_at_call 40; (with_reducible refine (hash_any s HS.out).mono ?_); rintro e w9 ⟨rfl, rfl⟩; rw [HH.out])
    | (go_at_call 56; (refine (HADD.out _ _ RD.out (K1.out.alloc _) K1.out.size).mono ?_); rintro e w3 ⟨b, rfl, hb⟩; have HBB := Lib.hid hb; clear hb))
  all_goals go_ret
  all_goals exact HBB.out

set_option maxHeartbeats 4000000 in
theorem addLineNone_any {w : World} {B : Nat → Prop} {d : Nat} {D : DbM} {v1 v2 v3 v4 v5 v6 : Value} {rr : List (RecM × Value)} {ss : List (ShopM × Value)} (ho : DbO B w d D v1 v2 v3 v4 v5 v6 rr ss) (s : ByteArray) (hs : s.size ≤ 1000000) (hT : T12B B w) {h : List UInt8} {r : List (List UInt8)} (hw : wordsL s.data.toList = h :: r) (hh : s.data.toList.head? ≠ some 35) (h1 : (⟨h.toArray⟩ : ByteArray) ≠ wRoom) (h2 : (⟨h.toArray⟩ : ByteArray) ≠ wItem) (h3 : (⟨h.toArray⟩ : ByteArray) ≠ wMob) (h4 : (⟨h.toArray⟩ : ByteArray) ≠ wRecipe) (h5 : (⟨h.toArray⟩ : ByteArray) ≠ wQuest) (h6 : (⟨h.toArray⟩ : ByteArray) ≠ wShop) : Calls Tryz.prog 17 #[.pointer (some ⟨d, 0, none⟩), .string s] w (StepA B w d ((lineU ⟨h.toArray⟩ (txts r)).map (push D))) := by
  have HO := Lib.hid ho
  have HS := Lib.hid hs
  have HH : Hid (decide (s.data.toList.head? = some 35) = false) := Lib.hid (by simpa using hh)
  have HWD := Lib.hid (words_any (w := w) s hs)
  rw [hw] at HWD
  obtain ⟨hsw, hln⟩ := shortW_words hs hw
  have hbd : ∀ b, w.heap.size ≤ b → B b := ho.v.base.2
  obtain ⟨n, hn⟩ : ∃ n, n = (txts r).length := ⟨_, rfl⟩
  have hn2 : (h :: r).length = n + 1 := by rw [List.length_cons, hn, txts_length]
  have HSC : Hid (scells (h :: r) = tcells (⟨h.toArray⟩ :: txts r)) := Lib.hid (by rw [txts_cells]; rfl)
  have HN := Lib.hid hn
  have HBD := Lib.hid hbd
  have HT := Lib.hid hT
  unfold AnsL at HWD
  rw [hn2] at HWD
  have e1 := wordNe h1
  have e2 := wordNe h2
  have e3 := wordNe h3
  have e4 := wordNe h4
  have e5 := wordNe h5
  have e6 := wordNe h6
  simp only at e1 e2 e3 e4 e5 e6
  have HUN : Hid (lineU ⟨h.toArray⟩ (txts r) = none) := Lib.hid (by unfold lineU; rw [if_neg h1, if_neg h2, if_neg h3, if_neg h4, if_neg h5, if_neg h6])
  obtain ⟨hB, hhB⟩ : ∃ b, b = (⟨h.toArray⟩ : ByteArray) := ⟨_, rfl⟩
  rw [← hhB] at e1 e2 e3 e4 e5 e6
  have HHB := Lib.hid hhB
  clear h1 h2 h3 h4 h5 h6 hhB
  clear ho hw hs hh hn hT hsw hln hn2 hbd
  go_enter Tryz.func17, Tryz.ntmps17
  go_wp2_with (first
    | (go_at_call 39; (with_reducible refine HWD.out.mono ?_); rintro e w1 ⟨v, rfl, row, own, k1⟩; rw [HSC.out] at row; have RD := Lib.hid (fun (cap g off : Nat) (hrow : Row w1 9 1 (.slice (some ⟨g, off, none⟩) (n + 1) cap) (n + 1) (tcells (⟨h.toArray⟩ :: txts r))) => reader_new hrow HN.out); obtain ⟨g, off, cap, rfl, hc1, hc2⟩ := row.full (by omega); unfold maxLen at hc2; have c0 : w1.cell? ⟨g, off, none⟩ = some (.string ⟨h.toArray⟩) := (row.cellAt 0 (by omega)).trans rfl; have hgl : g < w1.heap.size := row.lt rfl; have hm1 : ((n + 1 : Nat) : Int) = (n : Int) + 1 := (by omega); have e9 : (((n : Int) + 1) == 0) = false := (by rw [beq_eq_false_iff_ne]; omega); have RD := Lib.hid (RD.out cap g off row); have K1 := Lib.hid k1; rw [← HHB.out] at c0; clear row own k1; rcases Nat.eq_or_lt_of_le (show 1 ≤ cap by omega) with hcap | hcap <;> (first | (subst hcap; obtain rfl : n = 0 := (by omega); rw [if_pos rfl] at RD) | (rw [if_neg (by omega)] at RD)))
    | (go_at_call 40; (with_reducible refine (hash_any s HS.out).mono ?_); rintro e w9 ⟨rfl, rfl⟩; rw [HH.out]))
  all_goals go_ret
  all_goals exact .inr ⟨by rw [HUN.out]; rfl, rfl, (K1.out.alloc _).mono (fun _ _ h => h.elim)⟩

/-- THE PROGRAM'S addLine, of any line. -/
theorem addLine_any {w : World} {B : Nat → Prop} {d : Nat} {D : DbM} {v1 v2 v3 v4 v5 v6 : Value} {rr : List (RecM × Value)} {ss : List (ShopM × Value)} (ho : DbO B w d D v1 v2 v3 v4 v5 v6 rr ss) (s : ByteArray) (hs : s.size ≤ 1000000) (hT : T12B B w)
    (n1 : D.rooms.length ≤ 1000000) (n2 : D.protos.length ≤ 1000000) (n3 : D.mobs.length ≤ 1000000) (n4 : D.recs.length ≤ 1000000) (n5 : D.quests.length ≤ 1000000) (n6 : D.shops.length ≤ 1000000) :
    Calls Tryz.prog 17 #[.pointer (some ⟨d, 0, none⟩), .string s] w (StepA B w d (stepU s.data.toList D)) := by
  unfold stepU
  cases hw : wordsL s.data.toList with
  | nil => exact addNothing_any ho s hs hw
  | cons h r =>
    by_cases hh : s.data.toList.head? = some 35
    · simp only [hh, if_true]
      exact addRemark_any ho s hs hw hh
    · simp only [hh, if_false]
      by_cases h1 : (⟨h.toArray⟩ : ByteArray) = wRoom
      · exact addLineRoom_any ho s hs hT hw hh h1 n1
      by_cases h2 : (⟨h.toArray⟩ : ByteArray) = wItem
      · exact addLineProto_any ho s hs hT hw hh h2 n2
      by_cases h3 : (⟨h.toArray⟩ : ByteArray) = wMob
      · exact addLineMob_any ho s hs hT hw hh h3 n3
      by_cases h4 : (⟨h.toArray⟩ : ByteArray) = wRecipe
      · exact addLineRec_any ho s hs hT hw hh h4 n4
      by_cases h5 : (⟨h.toArray⟩ : ByteArray) = wQuest
      · exact addLineQuest_any ho s hs hT hw hh h5 n5
      by_cases h6 : (⟨h.toArray⟩ : ByteArray) = wShop
      · exact addLineShop_any ho s hs hT hw hh h6 n6
      exact addLineNone_any ho s hs hT hw hh h1 h2 h3 h4 h5 h6
end Go.Proofs.YtcodbomgodkcmaaGreatDoor.Wd
