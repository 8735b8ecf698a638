/- What the head of a group is: how many sectors, their homes, a sum over all. -/
import Derived.Test.YtibmillfankjfaaGreatDoorWalB
import Derived.Test.YtibmillfankjfaaGreatDoorCrcParts
import Derived.Deep.RegionLaw
namespace Go.Proofs.YtibmillfankjfaaGreatDoor
open Go.RowKit
set_option maxRecDepth 100000

/-- The k-th home of a group. -/
def gkey (g : Grp) (k : Nat) : Nat := (gkeys g).getD k 0

/-- The head with the first k homes. -/
def hfill (g : Grp) : Nat → ByteArray
  | 0 => put16 zeroSec 4 g.length
  | k + 1 => put16 (hfill g k) (6 + 2 * k) (gkey g k)

def gsec (g : Grp) (i : Nat) : ByteArray := (glook g i).getD zeroSec

/-- The sum over the rest of the head and the first k sectors. -/
def hsum (g : Grp) : Nat → Nat
  | 0 => crcMore 0 ((hfill g g.length).data.toList.drop 4)
  | k + 1 => crcMore (hsum g k) (gsec g (gkey g k)).data.toList

def headOf (g : Grp) : ByteArray := put16 (put16 (hfill g g.length) 0 (hsum g g.length % 65536)) 2 (hsum g g.length / 65536)

theorem hfill_size (g : Grp) : ∀ k, (hfill g k).size = 512
  | 0 => by rw [hfill, put16_size, zeroSec_size]
  | k + 1 => by rw [hfill, put16_size, hfill_size g k]

theorem headOf_size (g : Grp) : (headOf g).size = 512 := by rw [headOf, put16_size, put16_size, hfill_size]

theorem hsum_lt (g : Grp) : ∀ k, hsum g k < 4294967296
  | 0 => crcMore_lt _ _
  | _ + 1 => crcMore_lt _ _

theorem gkey_lt {g : Grp} (h : GOk g) (k : Nat) : gkey g k < 65536 := by
  unfold gkey
  rw [List.getD_eq_getElem?_getD]
  cases hk : (gkeys g)[k]? with
  | none => simp
  | some i =>
    have hm := List.mem_of_getElem? hk
    simp only [gkeys, List.mem_map] at hm
    obtain ⟨x, hx, rfl⟩ := hm
    simpa using h.key x hx

theorem SecAt.seen {w : World} {g : Nat} {s : ByteArray} (h : SecAt w g s) (k n : Nat) (hk : k + n = 512) : Seen w 1 (.slice (some ⟨g, k, none⟩) n n) (s.data.toList.drop k).length (bcells (s.data.toList.drop k)) := by
  have h1 := (h.row k n hk).seen
  have hl : (s.data.toList.drop k).length = n := by
    rw [List.length_drop, Array.length_toList, show s.data.size = 512 from h.2]; omega
  rw [hl]
  simpa [byteCells, bcells, List.map_drop] using h1

theorem IsGrp.drew {w : World} {b : Nat} {g : Grp} (h : IsGrp w b g) : IsGrp w.drew b g := h.keep (F := fun _ => False) (Keep.drew (Keep.refl _ w)) (fun h => h)
theorem SecAt.drew {w : World} {g : Nat} {s : ByteArray} (h : SecAt w g s) : SecAt w.drew g s := h
theorem Tab.drew {w : World} (h : Tab w) : Tab w.drew := h

section
variable {ops : Array Oper} {o : Oper} {a : Act} {w : World} {K : Act → World → Prop} {Q : Exit → Act → World → Prop} {E : Prop}

/-- len of a group, in a region that draws. -/
theorem step_len_grp (hg : o.guard = none) (m : Operand) (ho : o.op = .call { callee := .builtin .len, args := #[m], argTypes := #[57] }) (b : Nat) (g : Grp) (hm : a.eval m = .map (some b)) (h : IsGrp w b g)
    (hK : K (a.put o.dst (.int .i64 (g.length : Int))) w) : if Region.wanted o (yielded ops a.tmps) = true then Oper.wp Tryz.prog o a w K Q else E := by
  have hw : Region.wanted o (yielded ops a.tmps) = true := by simp [Region.wanted, hg]
  rw [if_pos hw]
  unfold Oper.wp
  simp [execOp, ho, resolve, invoke, builtin, hm, h.len o.type, Result.andThen]
  exact hK

end

/-- Where the making of a head has come to. -/
structure HeadAt (w : World) (b : Nat) (g : Grp) (s : ByteArray) (wr : World) : Prop where
  tab : Tab wr
  grp : IsGrp wr b g
  res : SecAt wr w.heap.size zeroSec
  hd : SecAt wr (w.heap.size + 1) s
  keep : Keep (fun _ => False) w wr

theorem HeadAt.go {w wr wr' : World} {b : Nat} {g : Grp} {s : ByteArray} (h : HeadAt w b g s wr) (k : Keep (fun _ => False) wr wr') : HeadAt w b g s wr' :=
  ⟨h.tab.keep k (fun h => h), h.grp.keep k (fun h => h), h.res.keep k (fun h => h), h.hd.keep k (fun h => h), h.keep.trans k (fun _ h => h.elim)⟩

theorem HeadAt.turn {w wr wr' : World} {b : Nat} {g : Grp} {s t : ByteArray} (h : HeadAt w b g s wr) (k : Keep (fun x => x = w.heap.size + 1) wr wr') (ht : SecAt wr' (w.heap.size + 1) t) (hT : Tab w) (hb : b < w.heap.size) : HeadAt w b g t wr' :=
  ⟨h.tab.keep k (fun e => by have := hT.lt; have : 1 = w.heap.size + 1 := e; omega), h.grp.keep k (fun e => by have : b = w.heap.size + 1 := e; omega), h.res.keep k (fun e => by have : w.heap.size = w.heap.size + 1 := e; omega), ht, h.keep.behind k (by omega)⟩

theorem ints_get (g : Grp) (k : Nat) (h : k < g.length) : (ints (gkeys g))[k]? = some (.int .i64 (gkey g k : Int)) := by
  have hl : k < (gkeys g).length := by simpa [gkeys] using h
  simp only [ints, List.getElem?_map, List.getElem?_eq_getElem hl, Option.map_some, gkey, List.getD_eq_getElem?_getD, Option.getD_some]

theorem and_low (s : Nat) (hs : s < 4294967296) : bits .and .u32 (s : Int) 65535 = ((s % 65536 : Nat) : Int) := by
  have := u32_and_nat s 65535 hs (by omega)
  rw [Nat.and_two_pow_sub_one_eq_mod s 16] at this
  exact this

set_option maxHeartbeats 4000000 in
theorem head_any {w : World} {b : Nat} {g : Grp} (hT : Tab w) (h : IsGrp w b g) (hn : g.length ≤ 200) :
    Calls Tryz.prog 43 #[.map (some b)] w fun e w' => e = .returned (secV (headOf g)) ∧ Keep (fun _ => False) w w' := by
  have H0 : Hid (HeadAt w b g zeroSec ((w.alloc (.cells (secC zeroSec) 53)).alloc (.cells (secC zeroSec) 53))) := Lib.hid ⟨(hT.alloc _).alloc _, (h.alloc _).alloc _, (SecAt.new w zeroSec zeroSec_size).alloc _, SecAt.new1 w _ zeroSec zeroSec_size, ((Keep.refl (fun _ => False) w).alloc _).alloc _⟩
  have HT := Lib.hid hT
  have hb := h.lt
  have HOK := Lib.hid h.ok
  have HB := Lib.hid hb
  clear hT hb h
  go_enter Tryz.func43, Tryz.ntmps43
  go_wp2_with (first | (refine wpList_alloc_sec rfl rfl ?_))
  go_region_law (first | (refine step_len_grp rfl (.tmp 11) rfl b g (by simp [go_sem]) H0.out.grp.drew ?_) | (go_simp; go_at_call 57; refine (put16_any H0.out.hd.drew 4 (by omega) g.length (by omega) _ _ (by omega)).mono ?_; rintro e w1 ⟨rfl, h1, k1, z1⟩))
  have H1 : Hid (HeadAt w b g (hfill g 0) w1) := Lib.hid ((H0.out.go (Keep.drew (Keep.refl _ _))).turn k1 h1 HT.out HB.out)
  clear h1 k1 z1 H0
  go_wp2_with (go_at_call 39; refine (homes_any H1.out.grp (by omega)).mono ?_; rintro e w2 ⟨v, rfl, hr, k2, ho⟩; have H2 := Lib.hid (H1.out.go k2); have HR := Lib.hid hr; have HO := Lib.hid (fun x hx => Nat.lt_of_lt_of_le H1.out.hd.lt (ho x hx)); obtain ⟨av, capv, rfl, _, hcv⟩ := hr.slice; unfold maxLen at hcv; clear hr k2 ho)
  obtain ⟨n, hn'⟩ : ∃ n, n = g.length := ⟨_, rfl⟩
  have HN := Lib.hid hn'
  rw [← hn'] at hn
  simp only [← hn'] at HR HO
  simp only [← hn']
  clear hn'
  go_loopw [17] (fun i wr => ∃ k : Nat, k ≤ n ∧ i = .int .i64 k ∧ HeadAt w b g (hfill g k) wr ∧ Row wr 3 1 (.slice av n capv) n (ints (gkeys g))) (fun i _ => n - (intOf i).toNat)
  case atStart => exact ⟨0, by omega, rfl, H2.out, HR.out⟩
  case round =>
    obtain ⟨k, hk, rfl, hF, hR⟩ := hrel
    by_cases hlt : k < n
    · obtain ⟨gv, ov, capv', hv, _, _⟩ := hR.full (by omega)
      simp only [Value.slice.injEq, true_and] at hv
      obtain ⟨rfl, rfl⟩ := hv
      have c0 : wr.cell? ⟨gv, ov + k, none⟩ = some (.int .i64 (gkey g k : Int)) := by
        rw [hR.cellAt k (by omega)]; exact ints_get g k (by rw [← HN.out]; exact hlt)
      have hkey := gkey_lt HOK.out k
      have HF := Lib.hid hF; have HRR := Lib.hid hR
      have hne := HO.out gv rfl
      have HNE := Lib.hid hne
      have HST : Hid (hfill g (k + 1) = put16 (hfill g k) (6 + 2 * k) (gkey g k)) := Lib.hid rfl
      generalize gkey g k = key at *
      clear hF hR hne
      go_wp2_with (first | (refine wpList_slice_sec rfl _ _ rfl _ (6 + 2 * k) (by omega) rfl (.inr ⟨_, _, rfl, rfl, by omega⟩) ?_) | (go_at_call 57; refine (put16_z HF.out.hd (6 + 2 * k) (by omega) key (by omega) _ _ (by omega) _ rfl).mono ?_; rintro e w3 ⟨rfl, h3, k3, z3⟩; have H3 := Lib.hid (HF.out.turn k3 h3 HT.out HB.out); have HR3 := Lib.hid (HRR.out.keep k3 (fun x hx e => by simp only [Value.ownBlock, Option.some.injEq] at hx; subst hx; have := HNE.out; have : gv = w.heap.size + 1 := e; omega)); clear h3 k3 z3))
      go_roundw
      case rel => exact ⟨k + 1, by omega, by go_num, by rw [HST.out]; exact H3.out, HR3.out⟩
      case measure => simp [intOf]; omega
    · obtain rfl : k = n := by omega
      have HF := Lib.hid hF
      have HS0 : Hid (crcMore 0 ((hfill g k).data.toList.drop 4) = hsum g 0) := Lib.hid (by rw [hsum, HN.out])
      have HQ := Lib.hid (hF.hd.seen 4 508 (by omega))
      have HL : Hid ((hfill g k).size = 512) := Lib.hid (hfill_size g k)
      clear hF hR hlt hk HR HO
      go_wp2_with (first | (refine wpList_slice_sec rfl _ _ rfl _ 4 (by omega) rfl (.inr ⟨_, _, rfl, rfl, by omega⟩) ?_) | (go_at_call 58; refine (sum1_any HF.out.tab HQ.out rfl).mono ?_; rw [HS0.out]; rintro e w3 ⟨rfl, rfl⟩; have H4 := Lib.hid (HF.out.go ((Keep.refl (fun _ => False) wr).alloc (.cells #[.slice (some ⟨w.heap.size + 1, 4, none⟩) 508 508] 35))) ) | (go_at_call 39; refine (homes_any H4.out.grp (by rw [← HN.out]; omega)).mono ?_; rintro e w5 ⟨v, rfl, hr, k2, ho⟩; have H5 := Lib.hid (H4.out.go k2); have HR := Lib.hid hr; have HO := Lib.hid (fun x hx => Nat.lt_of_lt_of_le H4.out.hd.lt (ho x hx)); obtain ⟨av2, capv2, rfl, _, hcv2⟩ := hr.slice; unfold maxLen at hcv2; clear hr k2 ho))
      simp only [← HN.out] at HR HO ⊢
      go_loopw [6, 35] (fun s i wr => ∃ j : Nat, j ≤ k ∧ i = .int .i64 j ∧ s = .int .u32 (hsum g j : Int) ∧ HeadAt w b g (hfill g k) wr ∧ Row wr 3 1 (.slice av2 k capv2) k (ints (gkeys g))) (fun _ i _ => k - (intOf i).toNat)
      case atStart => exact ⟨0, by omega, rfl, rfl, H5.out, HR.out⟩
      case round =>
        obtain ⟨j, hj, rfl, rfl, hF, hR⟩ := hrel
        by_cases hlt : j < k
        · obtain ⟨gv, ov, capv', hv, _, _⟩ := hR.full (by omega)
          simp only [Value.slice.injEq, true_and] at hv
          obtain ⟨rfl, rfl⟩ := hv
          have c0 : wr.cell? ⟨gv, ov + j, none⟩ = some (.int .i64 (gkey g j : Int)) := by
            rw [hR.cellAt j (by omega)]; exact ints_get g j (by rw [← HN.out]; exact hlt)
          have hkey := gkey_lt HOK.out j
          have HG := Lib.hid hF; have HRR := Lib.hid hR
          have HZ := Lib.hid (gget_size HOK.out (gkey g j))
          have HST : Hid (crcMore (hsum g j) (((glook g (gkey g j)).getD zeroSec).data.toList.drop 0) = hsum g (j + 1)) := Lib.hid (by rw [List.drop_zero]; rfl)
          have hsl := hsum_lt g j
          generalize gkey g j = key at *
          generalize hsum g j = sm at *
          clear hF hR
          go_wp2_with (first | (refine wpList_look rfl _ _ rfl b g key rfl rfl HG.out.grp hkey ?_) | (refine wpList_var_sec rfl rfl rfl _ _ rfl ((glook g key).getD zeroSec) rfl rfl HZ.out ?_; have S9 := Lib.hid ((SecAt.new wr ((glook g key).getD zeroSec) HZ.out).seen 0 512 (by omega)); have H9 := Lib.hid (HG.out.go ((Keep.refl (fun _ => False) wr).alloc (.cells (secC ((glook g key).getD zeroSec)) 53))); have R9 := Lib.hid (HRR.out.alloc (.cells (secC ((glook g key).getD zeroSec)) 53))) | (refine wpList_slice_sec rfl _ _ rfl _ 0 (by omega) rfl (.inl ⟨rfl, rfl⟩) ?_) | (go_at_call 59; refine (more_any H9.out.tab S9.out sm hsl).mono ?_; rw [HST.out]; rintro e w3 ⟨rfl, rfl⟩))
          go_roundw
          case rel => exact ⟨j + 1, by omega, by go_num, rfl, H9.out, R9.out⟩
          case measure => simp [intOf]; omega
        · obtain rfl : j = k := by omega
          have hsl := hsum_lt g j
          have hand := and_low (hsum g j) hsl
          have HE : Hid (put16 (put16 (hfill g j) 0 (hsum g j % 65536)) 2 (hsum g j / 65536) = headOf g) := Lib.hid (by rw [headOf, ← HN.out])
          have HG := Lib.hid hF
          have HA : True := trivial
          have HB2 : True := trivial
          clear hF hR hlt hj HR HO
          generalize hsum g j = sm at *
          go_wp2_with (first | (have _t := HA; refine wpList_slice_sec rfl _ _ rfl _ 0 (by omega) rfl (.inr ⟨_, _, rfl, rfl, rfl⟩) ?_; clear HA) | (refine wpList_slice_sec rfl _ _ rfl _ 2 (by omega) rfl (.inr ⟨_, _, rfl, rfl, rfl⟩) ?_) | (have _t := HB2; go_at_call 57; refine (put16_z HG.out.hd 0 (by omega) (sm % 65536) (by omega) _ _ (by omega) _ (by omega)).mono ?_; rintro e w7 ⟨rfl, h7, k7, z7⟩; have H7 := Lib.hid (HG.out.turn k7 h7 HT.out HB.out); clear h7 k7 z7 HB2) | (go_at_call 57; refine (put16_z H7.out.hd 2 (by omega) (sm / 65536) (by omega) _ _ (by omega) _ (by omega)).mono ?_; rintro e w8 ⟨rfl, h8, k8, z8⟩; rw [HE.out] at h8; have H8 := Lib.hid (H7.out.turn k8 h8 HT.out HB.out); clear h8 k8 z8) | (refine wpList_load_sec rfl _ rfl _ (headOf g) rfl H8.out.hd ?_) | (refine wpList_store_sec rfl _ _ rfl _ zeroSec (headOf g) rfl rfl H8.out.res (headOf_size g) ?_; intro w9 h9 k9 z9; have V9 := Lib.hid h9; have K9 := Lib.hid (H8.out.keep.behind k9 (Nat.le_refl _)); clear h9 k9 z9))
          refine bodyPost_ret (results_cell_row rfl _ _ w.heap.size _ (secC (headOf g)) _ _ rfl V9.out.1 Tryz.underlying53 rfl (by rw [secC_size, headOf_size]; exact Tryz.infoSec)) rfl ?_
          exact ⟨rfl, K9.out⟩

end Go.Proofs.YtibmillfankjfaaGreatDoor
