/- What a crash of a disk leaves, whatever is picked. -/
import Derived.Test.YtibmillfankjfaaGreatDoorDiskC
import Derived.Test.YtibmillfankjfaaGreatDoorArgs
namespace Go.Proofs.YtibmillfankjfaaGreatDoor
set_option maxRecDepth 100000
open Go.RowKit

/-- The waiting writes that were picked, in order. -/
def pick : List (Nat × ByteArray) → List Bool → List (Nat × ByteArray)
  | x :: c, b :: bs => (if b then [x] else []) ++ pick c bs
  | _, _ => []

theorem pick_nil (c : List (Nat × ByteArray)) : pick c [] = [] := by cases c <;> rfl

theorem pick_take : ∀ (c : List (Nat × ByteArray)) (bs : List Bool) (k : Nat) (h : k < c.length) (hb : k < bs.length), pick (c.take (k + 1)) (bs.take (k + 1)) = pick (c.take k) (bs.take k) ++ (if bs[k] then [c[k]] else [])
  | x :: c, b :: bs, 0, _, _ => by simp [pick]
  | x :: c, b :: bs, k + 1, h, hb => by
    have := pick_take c bs k (by simpa using h) (by simpa using hb)
    simp only [List.take_succ_cons, pick, this, List.getElem_cons_succ, List.append_assoc]

theorem pick_mem : ∀ (c : List (Nat × ByteArray)) (bs : List Bool) (x : Nat × ByteArray), x ∈ pick c bs → x ∈ c
  | y :: c, b :: bs, x, h => by
    simp only [pick, List.mem_append] at h
    rcases h with h | h
    · cases b <;> simp at h; subst h; exact List.mem_cons_self ..
    · exact List.mem_cons_of_mem _ (pick_mem c bs x h)
  | [], bs, x, h => by simp [pick] at h
  | _ :: _, [], x, h => by simp [pick] at h

theorem pick_min : ∀ (c : List (Nat × ByteArray)) (bs : List Bool) (k : Nat), c.length ≤ k ∨ bs.length ≤ k → pick (c.take k) (bs.take k) = pick c bs
  | [], _, k, _ => by simp [pick]
  | _ :: _, [], k, _ => by simp [pick_nil]
  | _ :: _, _ :: _, 0, h => by simp at h
  | x :: c, b :: bs, k + 1, h => by
    simp only [List.take_succ_cons, pick]
    rw [pick_min c bs k (by simpa using h)]

def Dk.crash (D : Dk) (bs : List Bool) : Dk := Dk.fresh (putAll D.las (pick D.cache bs))

/-- The world behind k rounds of the crash. -/
def CrashAt (w : World) (p : Nat) (vl vn vc : Value) (D : Dk) (vp : Value) (bs : List Bool) (v5 : Value) (k : Nat) (wr : World) : Prop :=
  IsDisk wr p vl vn vc D ∧ Seen wr 1 vp bs.length (bools bs) ∧ Row wr 9 1 v5 D.las.length (strs (putAll D.las (pick (D.cache.take k) (bs.take k)))) ∧ Keep (fun _ => False) w wr ∧ (∀ b, v5.ownBlock = some b → w.heap.size ≤ b)

theorem crash_nil {w : World} {vp : Value} :
    Calls Tryz.prog 13 #[.pointer none, vp] w fun e w' => e = .returned (.pointer none) ∧ w = w' := by
  go_enter Tryz.func13, Tryz.ntmps13
  go_wp2
  go_ret
  exact ⟨rfl, rfl⟩

theorem CrashAt.ok {w wr : World} {p : Nat} {vl vn vc : Value} {D : Dk} {vp : Value} {bs : List Bool} {v5 : Value} {k : Nat} (h : CrashAt w p vl vn vc D vp bs v5 k wr) : ∀ s ∈ putAll D.las (pick (D.cache.take k) (bs.take k)), s.size = 512 :=
  putAll_size _ _ h.1.ok.slas (fun x hx => (h.1.ok.inr x (List.mem_of_mem_take (pick_mem _ _ _ hx))).2)

theorem CrashAt.skip {w wr : World} {p : Nat} {vl vn vc : Value} {D : Dk} {vp : Value} {bs : List Bool} {v5 : Value} {k : Nat} (h : CrashAt w p vl vn vc D vp bs v5 k wr) (h1 : k < D.cache.length) (h2 : k < bs.length) (hb : bs[k] = false) (o : Obj) :
    CrashAt w p vl vn vc D vp bs v5 (k + 1) (wr.alloc o) := by
  obtain ⟨a, b, c, d, e⟩ := h
  have kk : Keep (fun _ => False) wr (wr.alloc o) := (Keep.refl _ wr).alloc o
  refine ⟨a.keep kk (fun _ _ h => h), b.keep kk (fun _ _ _ h => h), ?_, d.trans kk (fun _ h => h.elim), e⟩
  rw [pick_take _ _ _ h1 h2, hb]
  simpa using c.alloc o

theorem CrashAt.take {w wr : World} {p : Nat} {vl vn vc : Value} {D : Dk} {vp : Value} {bs : List Bool} {v5 : Value} {k : Nat} (h : CrashAt w p vl vn vc D vp bs v5 k wr) (h1 : k < D.cache.length) (h2 : k < bs.length) (hb : bs[k] = true) (o : Obj)
    {g5 o5 n5 c5 : Nat} (hv : v5 = .slice (some ⟨g5, o5, none⟩) n5 c5) {i : Nat} {s : ByteArray} (hi : D.cache[k].1 = i) (hs : D.cache[k].2 = s) (hpn : ∀ b, diskOf p vl vn vc b → b < w.heap.size) (hpp : ∀ b, vp.ownBlock = some b → 0 < bs.length → b < w.heap.size) :
    CrashAt w p vl vn vc D vp bs v5 (k + 1) ((wr.setCell ⟨g5, o5 + i, none⟩ (.string s)).alloc o) := by
  obtain ⟨a, b, c, d, e⟩ := h
  have hg5 : v5.ownBlock = some g5 := by rw [hv]; rfl
  have kk : Keep (fun b => b = g5) wr ((wr.setCell ⟨g5, o5 + i, none⟩ (.string s)).alloc o) := (Keep.setCell (F := fun b => b = g5) (Keep.refl _ wr) _ _ (.inl rfl)).alloc o
  have hge := e g5 hg5
  refine ⟨a.keep kk (fun x hx hh => ?_), b.keep kk (fun x hx _ hh => ?_), ?_, d.trans kk (fun x hx => .inr (by rw [hx]; exact hge)), e⟩
  · have := hpn x hx; rw [hh] at this; omega
  · have := hpp x hx (by omega); rw [hh] at this; omega
  · rw [pick_take _ _ _ h1 h2, hb, if_pos rfl, putAll_snoc, hi, hs]
    rw [hv] at c ⊢
    obtain ⟨a', c', hv', _⟩ := c.slice
    simp only [Value.slice.injEq] at hv'
    obtain ⟨_, rfl, rfl⟩ := hv'
    have := c.stored i (.string s)
    exact Row.alloc (by simpa [strs, List.map_set] using this) o

set_option maxHeartbeats 1000000 in
theorem crash_any {w : World} {p : Nat} {vl vn vc : Value} {D : Dk} (h : IsDisk w p vl vn vc D) (hb : D.las.length ≤ 1099511627776) {vp : Value} {bs : List Bool} (hp : Seen w 1 vp bs.length (bools bs)) (hpn : ∀ b, vp.ownBlock = some b → 0 < bs.length → b < w.heap.size) :
    Calls Tryz.prog 13 #[.pointer (some ⟨p, 0, none⟩), vp] w fun e w' => ∃ q ul un, e = .returned (.pointer (some ⟨q, 0, none⟩)) ∧ IsDisk w' q ul un (.slice none 0 0) (D.crash bs) ∧ Keep (fun _ => False) w w' ∧
      (∀ b, diskOf q ul un (.slice none 0 0) b → w.heap.size ≤ b ∧ b < w'.heap.size) := by
  have hH := Lib.hid h
  have hP := Lib.hid hp
  obtain ⟨ac, capc, rfl, hcc, hcm⟩ := h.cache.slice
  obtain ⟨al, capl, rfl, _, _⟩ := h.las.slice
  obtain ⟨_, ap, capp, rfl, hpc, hpm, _⟩ := hp
  have h0 := h.cell 0
  simp only [List.getElem?_toArray, List.getElem?_cons_zero] at h0
  unfold maxLen at hcm hpm
  clear h
  have hlt1 := Lib.hid (fun b hb => hH.out.lt (b := b) hb)
  have hpn1 := Lib.hid hpn
  clear hpn
  obtain ⟨m, hm1, hm2, hm3⟩ : ∃ m, m ≤ D.cache.length ∧ m ≤ bs.length ∧ (D.cache.length ≤ m ∨ bs.length ≤ m) := ⟨min D.cache.length bs.length, by omega, by omega, by omega⟩
  by_cases hmin : D.cache.length ≤ bs.length
  all_goals
    go_enter Tryz.func13, Tryz.ntmps13
    go_wp2_with (go_at_call 35; refine (clone_any hH.out.las hb).mono ?_; rintro e w1 ⟨v5, rfl, hrow, hk, hown⟩; have hH1 := Lib.hid (hH.out.keep hk (fun _ _ h => h)); have hR := Lib.hid hrow; have hK := Lib.hid hk; have hO := Lib.hid hown; have k2 := hH1.out.cell 2; simp only [List.getElem?_toArray, List.getElem?_cons_zero, List.getElem?_cons_succ] at k2; clear hrow hk hown h0)
    go_region
    go_wp2
    go_loopw [29] (fun i wr => ∃ k : Nat, k ≤ m ∧ i = .int .i64 k ∧ CrashAt w p (.slice al D.las.length capl) vn (.slice ac D.cache.length capc) D (.slice ap bs.length capp) bs v5 k wr) (fun i _ => m - (intOf i).toNat)
    case atStart => exact ⟨0, Nat.zero_le _, rfl, hH1.out.keep (Keep.drew (Keep.refl (fun _ => False) _)) (fun _ _ h => h), (hP.out.keep hK.out (fun _ _ _ h => h)).keep (Keep.drew (Keep.refl (fun _ => False) _)) (fun _ _ _ h => h), by simpa [pick, putAll] using hR.out.drew, hK.out.drew, fun b hb => (hO.out b hb).1⟩
    case round =>
      obtain ⟨k, hk, rfl, hF⟩ := hrel
      have HF := Lib.hid hF
      clear k2 hF
      by_cases hlt : k < m
      · have t1 : k < D.cache.length := by omega
        have t2 : k < bs.length := by omega
        have hd := HF.out.1
        have hcache : Row wr 81 2 (.slice ac D.cache.length capc) D.cache.length (chg D.cache) := hd.cache
        obtain ⟨gc, oc, _, hv, _, _⟩ := hcache.full (by omega)
        simp only [Value.slice.injEq, true_and] at hv
        obtain ⟨rfl, rfl⟩ := hv
        have hx := (hd.ok.inr D.cache[k] (List.getElem_mem _)).1
        obtain ⟨q1, q2⟩ := chg_get D.cache k t1
        have c0 : wr.cell? ⟨gc, oc + k * 2, none⟩ = some (.int .i64 D.cache[k].1) := by rw [hcache.cellAt (k * 2) (by omega), Nat.mul_comm k 2, q1]
        have c1 : wr.cell? ⟨gc, oc + k * 2 + 1, none⟩ = some (.string D.cache[k].2) := by rw [Nat.add_assoc, hcache.cellAt (k * 2 + 1) (by omega), Nat.mul_comm k 2, q2]
        obtain ⟨_, _, _, hvp, _, _, hs0⟩ := HF.out.2.1
        simp only [Value.slice.injEq] at hvp
        obtain ⟨rfl, _, rfl⟩ := hvp
        obtain ⟨gp, op, rfl, hgp, hcp⟩ := hs0.resolve_left (by omega)
        have c2 : wr.cell? ⟨gp, op + k, none⟩ = some (.bool bs[k]) := hcp k _ (by simp [bools, List.getElem?_eq_getElem t2])
        have hrow5 := HF.out.2.2.1
        obtain ⟨g5, o5, cap5, rfl, hl5, hm5⟩ := hrow5.full hd.pos
        have hg5 : g5 < wr.heap.size := hrow5.lt rfl
        have c3 : wr.cell? ⟨g5, o5 + D.cache[k].1, none⟩ = some (.string ((putAll D.las (pick (D.cache.take k) (bs.take k))).getD D.cache[k].1 default)) := by
          rw [hrow5.cellAt D.cache[k].1 (by omega), strs_get _ _ (by rw [putAll_length]; exact hx)]
        have c4 := (hrow5.there D.cache[k].1 (by omega)).2
        unfold maxLen at hm5
        generalize hat : D.cache[k].1 = at' at *
        generalize hsec : D.cache[k].2 = sec at *
        generalize hbk : bs[k] = bk at *
        have HA := Lib.hid hat
        have HS := Lib.hid hsec
        have HB := Lib.hid hbk
        have ho2 := hpm
        clear hat hsec hbk q1 q2 hcache hd hs0 hcp hrow5
        cases bk
        · go_wp2
          go_roundw
          case rel => exact ⟨k + 1, by omega, by go_num, HF.out.skip t1 t2 HB.out _⟩
          case measure => simp [intOf]; omega
        · go_wp2
          go_roundw
          case rel => exact ⟨k + 1, by omega, by go_num, HF.out.take t1 t2 HB.out _ rfl HA.out HS.out hlt1.out hpn1.out⟩
          case measure => simp [intOf]; omega
      · have hend : putAll D.las (pick (D.cache.take k) (bs.take k)) = (D.crash bs).las := by
          rw [pick_min _ _ _ (by omega)]; rfl
        have HE := Lib.hid hend
        have hl : (D.crash bs).las.length = D.las.length := putAll_length _ _
        have HL := Lib.hid hl
        clear hend hl
        first
        | (have hno : ¬ k < D.cache.length := by omega)
        | (have hno : ¬ k < bs.length := by omega)
        go_wp2_with (go_at_call 16; refine (holding_any (l := (D.crash bs).las) (by rw [HL.out, ← HE.out]; exact HF.out.2.2.1) (by rw [HL.out]; exact hb) (by rw [HL.out]; exact hH.out.pos) (by rw [← HE.out]; exact HF.out.ok)).mono ?_; rintro e w2 ⟨q, un, rfl, hd2, hk2, ho2⟩; have HD2 := Lib.hid hd2; have HK2 := Lib.hid hk2; have HO2 := Lib.hid ho2; clear hd2 hk2 ho2)
        go_ret
        refine ⟨q, v5, un, rfl, HD2.out, HF.out.2.2.2.1.trans HK2.out (fun _ h => h.elim), fun b hb => ?_⟩
        have s1 := HF.out.2.2.2.1.size
        have s2 := HK2.out.size
        rcases hb with rfl | hb | hb | hb
        · have := HO2.out b (.inl rfl); omega
        · have h1 := HF.out.2.2.2.2 b hb
          have h2 := HF.out.2.2.1.lt hb
          omega
        · have := HO2.out b (.inr hb); omega
        · simp [Value.ownBlock] at hb

end Go.Proofs.YtibmillfankjfaaGreatDoor
