/- CrcAll answers true: any bytes have their sum, however they are cut, and whatever comes behind. -/
import Derived.Test.YtiafahbcndaclaaDoorCrcLaw
namespace Go.Proofs.YtiafahbcndaclaaDoor
open Go.RowKit

def cut (ls : List (List UInt8)) (k : Nat) : List (List UInt8) := (ls.take k).map (·.take 100)

def flat (ls : List (List UInt8)) (k : Nat) : List UInt8 := (cut ls k).flatten

theorem cut_succ (ls : List (List UInt8)) (k : Nat) (h : k < ls.length) : cut ls (k + 1) = cut ls k ++ [ls[k].take 100] := by
  unfold cut
  rw [List.take_succ_eq_append_getElem h, List.map_append]; rfl

theorem flat_succ (ls : List (List UInt8)) (k : Nat) (h : k < ls.length) : flat ls (k + 1) = flat ls k ++ ls[k].take 100 := by
  unfold flat
  rw [cut_succ ls k h]; simp

theorem cut_length (ls : List (List UInt8)) (k : Nat) (h : k ≤ ls.length) : (cut ls k).length = k := by simp [cut]; omega

theorem flat_le (ls : List (List UInt8)) : ∀ k, k ≤ ls.length → (flat ls k).length ≤ 100 * k
  | 0, _ => by simp [flat, cut]
  | k + 1, h => by
    rw [flat_succ ls k (by omega), List.length_append]
    have := flat_le ls k (by omega)
    have := List.length_take_le 100 ls[k]
    omega

structure AllAt (w : World) (ls : List (List UInt8)) (v6 v7 : Value) (m k : Nat) (wr : World) : Prop where
  keep : Keep (fun _ => False) w wr
  l : ∃ vals, Row wr 23 1 v7 m vals ∧ ∀ j (h : j < (cut ls m).length), ∃ u, vals[j]? = some u ∧ Seen w 1 u ((cut ls m)[j]).length (bcells ((cut ls m)[j]))
  all : Row wr 5 1 v6 (flat ls k).length (bcells (flat ls k))
  new6 : ∀ b, v6.ownBlock = some b → w.heap.size ≤ b
  new7 : ∀ b, v7.ownBlock = some b → w.heap.size ≤ b
  apart : ∀ b, v6.ownBlock = some b → v7.ownBlock = some b → False

theorem AllAt.start {w w1 : World} (ls : List (List UInt8)) (hk : Keep (fun _ => False) w w1) : AllAt w ls (.slice none 0 0) (.slice none 0 0) 0 0 w1 :=
  ⟨hk, ⟨[], Row.nil _ _ _, fun j h => by simp [cut] at h⟩, Row.nil _ _ _, fun b h => by simp [Value.ownBlock] at h, fun b h => by simp [Value.ownBlock] at h, fun b h => by simp [Value.ownBlock] at h⟩

theorem AllAt.alloc {w wr : World} {ls : List (List UInt8)} {v6 v7 : Value} {m k : Nat} (h : AllAt w ls v6 v7 m k wr) (o : Obj) : AllAt w ls v6 v7 m k (wr.alloc o) := by
  obtain ⟨h1, ⟨vals, h2, h3⟩, h4, h5, h6, h7⟩ := h
  exact ⟨h1.alloc o, ⟨vals, h2.alloc o, h3⟩, h4.alloc o, h5, h6, h7⟩

/-- One part more in the list. -/
theorem AllAt.push {w wr w' : World} {ls : List (List UInt8)} {v6 v7 v7' : Value} {k : Nat} {vals : List Value} {u : Value} {mk : List UInt8} (h : AllAt w ls v6 v7 k k wr) (hk : k < ls.length) (hmk : mk = ls[k].take 100)
    (hvals : ∀ j (h : j < (cut ls k).length), ∃ u, vals[j]? = some u ∧ Seen w 1 u ((cut ls k)[j]).length (bcells ((cut ls k)[j])))
    (hlen : vals.length = k)
    (hr : Row w' 23 1 v7' (k + 1) (vals ++ [u])) (hu : Seen w 1 u mk.length (bcells mk)) (hK : Keep (fun b => v7.ownBlock = some b) wr w')
    (hb : ∀ b, v7'.ownBlock = some b → v7.ownBlock = some b ∨ (wr.heap.size ≤ b ∧ b < w'.heap.size)) : AllAt w ls v6 v7' (k + 1) k w' := by
  subst hmk
  obtain ⟨h1, _, h4, h5, h6, h7⟩ := h
  refine ⟨h1.trans hK (fun b hb => .inr (h6 b hb)), ⟨_, hr, fun j hj => ?_⟩, h4.keep hK (fun b e => fun e' => h7 b e e'), h5, fun b e => ?_, fun b e e' => ?_⟩
  · have hc := cut_length ls k (by omega)
    rw [cut_length ls (k + 1) (by omega)] at hj
    by_cases hjk : j < k
    · obtain ⟨u', h1, h2⟩ := hvals j (by omega)
      refine ⟨u', by rw [List.getElem?_append_left (by omega)]; exact h1, ?_⟩
      have e : (cut ls (k + 1))[j]'(by rw [cut_length ls (k + 1) (by omega)]; omega) = (cut ls k)[j]'(by omega) := by
        simp only [cut_succ ls k hk]
        rw [List.getElem_append_left]
      rw [e]; exact h2
    · obtain rfl : j = k := by omega
      refine ⟨u, by rw [List.getElem?_append_right (by omega)]; simp [hlen], ?_⟩
      have e : (cut ls (j + 1))[j]'(by rw [cut_length ls (j + 1) (by omega)]; omega) = ls[j].take 100 := by
        simp only [cut_succ ls j hk]
        rw [List.getElem_append_right (by omega)]
        simp
      rw [e]; exact hu
  · rcases hb b e with h | h
    · exact h6 b h
    · have := h1.size; omega
  · rcases hb b e' with h | h
    · exact h7 b e h
    · have := h4.lt e; omega

/-- The bytes of one part more. -/
theorem AllAt.grow {w wr w' : World} {ls : List (List UInt8)} {v6 v6' v7 : Value} {k : Nat} {mk : List UInt8} (h : AllAt w ls v6 v7 (k + 1) k wr) (hk : k < ls.length) (hmk : mk = ls[k].take 100)
    (hr : Row w' 5 1 v6' ((flat ls k).length + mk.length) (bcells (flat ls k) ++ bcells mk)) (hK : Keep (fun b => v6.ownBlock = some b) wr w')
    (hb : ∀ b, v6'.ownBlock = some b → v6.ownBlock = some b ∨ (wr.heap.size ≤ b ∧ b < w'.heap.size)) : AllAt w ls v6' v7 (k + 1) (k + 1) w' := by
  subst hmk
  obtain ⟨h1, ⟨vals, h2, h3⟩, h4, h5, h6, h7⟩ := h
  refine ⟨h1.trans hK (fun b hb => .inr (h5 b hb)), ⟨vals, h2.keep hK (fun b e e' => h7 b e' e), h3⟩, ?_, fun b e => ?_, h6, fun b e e' => ?_⟩
  · rw [flat_succ ls k hk, List.length_append]
    simpa [bcells] using hr
  · rcases hb b e with h | h
    · exact h5 b h
    · have := h1.size; omega
  · rcases hb b e with h | h
    · exact h7 b h e'
    · have := h2.lt e'; omega

theorem AllAt.parts {w wr : World} {ls : List (List UInt8)} {v6 v7 : Value} {k : Nat} (h : AllAt w ls v6 v7 k k wr) (hk : k ≤ ls.length) : Parts wr v7 (cut ls k) := by
  obtain ⟨vals, h2, h3⟩ := h.l
  refine ⟨vals, by rw [cut_length ls k hk]; exact h2.seen, fun j hj => ?_⟩
  obtain ⟨u, h4, h5⟩ := h3 j hj
  exact ⟨u, h4, h5.keep h.keep (fun _ _ _ h => h)⟩

theorem AllAt.sum {w wr : World} {ls : List (List UInt8)} {v6 v7 : Value} {k : Nat} (h : AllAt w ls v6 v7 k k wr) (hT : Tab wr) (hk : k ≤ ls.length) :
    Calls Tryd.prog 7 #[v7] wr fun e w' => e = .returned (.int .u32 (crcMore 0 (flat ls k) : Int)) ∧ wr = w' :=
  sum_any hT (h.parts hk)

theorem Tryd.infoSl : (Tryd.prog.info? 23).map (fun i => (i.zero, i.size, i.bytes)) = some (some (.slice none 0 0), 1, 24) := by kernel_rfl

set_option maxHeartbeats 2000000 in
set_option maxRecDepth 100000 in
theorem all_any {w : World} {vp vm : Value} {ls : List (List UInt8)} {mo : List UInt8} (hT : Tab w) (hp : Parts w vp ls) (hm : Seen w 1 vm mo.length (bcells mo)) :
    Calls Tryd.prog 3 #[vp, vm] w fun e w' => e = .returned (.bool true) ∧ Keep (fun _ => False) w w' := by
  have HT := Lib.hid hT
  obtain ⟨vals, hv, hvs⟩ := hp
  have HV := Lib.hid hv
  have HVS := Lib.hid hvs
  have HM := Lib.hid hm
  obtain ⟨_, ap, cp, rfl, hlc, hcm, _⟩ := hv
  unfold maxLen at hcm
  obtain ⟨i0, hi0, hz0, hz1, hz2⟩ := info_parts Tryd.infoB
  obtain ⟨i1, hi1, hy0, hy1, hy2⟩ := info_parts Tryd.infoSl
  clear hT hvs hm
  go_enter Tryd.func3, Tryd.ntmps3
  go_wp2_with fail
  refine (begun2_any HT.out).mono ?_
  rintro e w1 ⟨rfl, hk⟩
  have H0 := Lib.hid (AllAt.start ls hk)
  clear hk
  go_wp2
  go_loopw [6, 7, 8] (fun v6 v7 i wr => ∃ k : Nat, k ≤ ls.length ∧ k ≤ 8 ∧ i = .int .i64 k ∧ AllAt w ls v6 v7 k k wr) (fun _ _ i _ => 8 - (intOf i).toNat)
  case atStart => exact ⟨0, by omega, by omega, rfl, H0.out⟩
  case round =>
    obtain ⟨k, hk1, hk2, rfl, hF⟩ := hrel
    have HF := Lib.hid hF
    clear hF
    by_cases t : k < ls.length ∧ k < 8
    · obtain ⟨t1, t2⟩ := t
      · obtain ⟨_, _, _, hv, _, _, hc⟩ := HV.out
        simp only [Value.slice.injEq] at hv
        obtain ⟨rfl, _, rfl⟩ := hv
        obtain ⟨gb, ob, rfl, hgb, hcb⟩ := hc.resolve_left (by omega)
        obtain ⟨u0, hu0, hus0⟩ := HVS.out k t1
        have c0 : wr.cell? ⟨gb, ob + k, none⟩ = some u0 := (HF.out.keep.cell hgb (fun h => h) (ob + k)).trans (hcb k _ hu0)
        have HU := Lib.hid (hus0.keep HF.out.keep (fun _ _ _ h => h))
        have HU0 := Lib.hid hus0
        obtain ⟨vals7, hr7, hs7⟩ := HF.out.l
        obtain ⟨a7, c7, rfl, _, _⟩ := hr7.slice
        have hlen7 := hr7.1
        rw [Nat.mul_one] at hlen7
        obtain ⟨a6, c6, rfl, _, _⟩ := HF.out.all.slice
        have HR7 := Lib.hid hr7
        have HS7 := Lib.hid hs7
        have HL7 := Lib.hid hlen7
        have hfl := flat_le ls k hk1
        obtain ⟨mk, hmk⟩ : ∃ mk, mk = ls[k].take 100 := ⟨_, rfl⟩
        have htl : mk.length ≤ 100 := by rw [hmk]; exact List.length_take_le 100 ls[k]
        have HMK := Lib.hid hmk
        clear hmk
        clear hc hcb hu0 hus0 hr7 hs7 hlen7
        go_wp2_with fail
        refine (short_m 100 HU.out HMK.out (by omega)).mono ?_
        rintro e w2 ⟨u, rfl, hsh, rfl⟩
        have hsu := hsh w HU0.out
        have HSU := Lib.hid hsu
        obtain ⟨_, au, cau, rfl, _, _, _⟩ := hsu
        clear hsh c0
        go_wp2_with (at_builtin; go_loud (refine wpList_append_row _ rfl (.tmp 23) (.tmp 29) rfl Tryd.underlying22 hi1 hy0 hy1 hy2 rfl rfl (HR7.out.alloc _) rfl (Src.lit Tryd.underlying22 #[.slice au mk.length cau] _ 1 1 rfl rfl ?c2) ?c3 ?c4 ?grow))
        case c2 => simp [Value.oneCell']
        case c3 => simp only [maxLen]; omega
        case c4 => omega
        case grow =>
          intro v7 w2 hr2 hk2 hb2 _
          have HA1 := Lib.hid ((HF.out.alloc _).push t1 HMK.out HS7.out HL7.out hr2 HSU.out hk2 (by simpa using hb2))
          obtain ⟨g7, o7, c7', rfl, _, _⟩ := hr2.full (by omega)
          have c1 : w2.cell? ⟨g7, o7 + k, none⟩ = some (.slice au mk.length cau) := (hr2.cellAt k (by omega)).trans (by rw [List.getElem?_append_right (by rw [HL7.out]; omega)]; simp [HL7.out])
          have HSU2 := Lib.hid (HSU.out.keep HA1.out.keep (fun _ _ _ h => h))
          clear hr2 hk2 hb2
          go_wp2_with (at_builtin; go_loud (refine wpList_append_row _ rfl (.tmp 31) (.tmp 35) rfl Tryd.underlying23 hi0 hz0 hz1 hz2 rfl rfl HA1.out.all rfl (HSU2.out.src Tryd.underlying23 ?d2) ?d3 ?d4 ?grow2))
          case d2 => intro u hu; obtain ⟨y, _, rfl⟩ := List.mem_map.1 hu; rfl
          case d3 => simp only [maxLen]; omega
          case d4 => omega
          case grow2 =>
            intro v6 w3 hr3 hk3 hb3 _
            have HA2 := Lib.hid (HA1.out.grow t1 HMK.out hr3 hk3 hb3)
            clear hr3 hk3 hb3 c1
            go_wp2
            go_roundw
            case rel => exact ⟨k + 1, by omega, by omega, by go_num, HA2.out⟩
            case measure => simp [intOf]; omega
    · obtain ⟨vals7, hr7, _⟩ := HF.out.l
      obtain ⟨a7, c7, rfl, _, _⟩ := hr7.slice
      obtain ⟨a6, c6, rfl, _, _⟩ := HF.out.all.slice
      obtain ⟨mm, hmm⟩ : ∃ mm, mm = mo.take 100 := ⟨_, rfl⟩
      have HMM := Lib.hid hmm
      have HMR := Lib.hid (HM.out.keep HF.out.keep (fun _ _ _ h => h))
      have HTR := Lib.hid (HT.out.keep HF.out.keep (fun h => h))
      have HSL := Lib.hid (HF.out.sum HTR.out hk1)
      have HFL := Lib.hid HF.out.all.seen
      have HK := Lib.hid HF.out.keep
      have HAP := Lib.hid (crcMore_append 0 (flat ls k) mm)
      clear hr7 hmm
      generalize flat ls k = fl at *
      have HLT := Lib.hid (crcMore_lt 0 fl)
      rcases (by omega : ¬ k < ls.length ∨ (k < ls.length ∧ ¬ k < 8)) with t1 | ⟨t1, t2⟩
      all_goals
        clear t
        go_wp2_with fail
        refine (short_is 100 HMR.out HMM.out (by omega)).mono ?_
        rintro e w2 ⟨um, rfl, hum, rfl⟩
        have HUM := Lib.hid hum
        obtain ⟨_, am, cam, rfl, _, _, _⟩ := hum
        go_wp2_with fail
        refine HSL.out.mono ?_
        rintro e w2 ⟨rfl, rfl⟩
        go_wp2_with fail
        refine (refMore_any HFL.out 0 (by omega)).mono ?_
        rintro e w2 ⟨rfl, rfl⟩
        go_wp2_with fail
        refine (sum1_any HTR.out HFL.out rfl).mono ?_
        rintro e w2 ⟨rfl, rfl⟩
        go_wp2_with fail
        refine (more_any (HTR.out.alloc _) (HUM.out.alloc _) _ HLT.out).mono ?_
        rw [HAP.out]
        rintro e w2 ⟨rfl, rfl⟩
        go_wp2_with fail
        refine (sum2_any (HTR.out.alloc _) (HFL.out.alloc _) (HUM.out.alloc _) (by simp)).mono ?_
        rintro e w2 ⟨rfl, rfl⟩
        go_wp2
        go_ret
        exact ⟨rfl, (HK.out.alloc _).alloc _⟩

end Go.Proofs.YtiafahbcndaclaaDoor
