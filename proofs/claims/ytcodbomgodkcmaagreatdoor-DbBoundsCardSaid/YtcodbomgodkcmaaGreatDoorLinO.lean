/- Texts: the program's Lines. -/
import Derived.Test.YtcodbomgodkcmaaGreatDoorLinI
import Derived.Maps.AppendAt
namespace Go.Proofs.YtcodbomgodkcmaaGreatDoor.Lin
open Go.RowKit Go.Maps Go.Proofs.YtcodbomgodkcmaaGreatDoor Go.Shelf
set_option maxRecDepth 100000

theorem strLines_any {w : World} (s : ByteArray) : Calls Tryz.prog 36 #[.string s] w fun e w' => e = .returned (.func (.func 89) #[] #[.pointer (some ⟨w.heap.size, 0, none⟩)]) ∧ w' = w.alloc (.cells #[.string s] 9) := by
  go_enter Tryz.func36, Tryz.ntmps36
  go_wp2
  go_ret
  exact ⟨rfl, rfl⟩

theorem trim_len (x p : List UInt8) : (Lib.trimSuffix x p).length ≤ x.length := by
  unfold Lib.trimSuffix
  split
  · rw [List.length_take]; omega
  · exact Nat.le_refl _
theorem rawGo_each : ∀ (r cur : List UInt8), ∀ x ∈ rawGo cur r, x.length ≤ cur.length + r.length
  | [], cur, x, h => by
    rw [rawGo] at h
    split at h
    · cases h
    · simp at h; rw [h]; simp
  | c :: r, cur, x, h => by
    by_cases e : c = 10
    · subst e
      rw [rawGo_ten] at h
      rcases List.mem_cons.1 h with h | h
      · rw [h]; simp
      · have := rawGo_each r [] x h; simp at this ⊢; omega
    · rw [rawGo_other e] at h
      have := rawGo_each r (cur ++ [c]) x h
      simp at this ⊢; omega
theorem rawGo_mem_len {s : List UInt8} {pre : List (List UInt8)} {x : List UInt8} (hs : s.length ≤ 1000000) (h : pre ++ [x] <+: rawGo [] s) : x.length ≤ 1000000 := by
  have := rawGo_each s [] x (h.subset (by simp))
  simp at this; omega

attribute [local go_sem] Oper.semAt_some

/-- Between two rounds: the list's box holds the lines that came. -/
structure LiI (w0 : World) (B : Nat) (pre : List (List UInt8)) (W : World) : Prop where
  ex : ∃ v, Boxed W w0.heap.size 57 v ∧ W.ownsRow B 9 1 v pre.length (scells (pre.map lineF))
  keep : Keep (fun _ => False) w0 W

theorem LiI.kept {w0 : World} {B : Nat} (hB : w0.heap.size + 4 = B) {pre : List (List UInt8)} {X Y : World} (h : LiI w0 B pre X) (k : Keep (fun b => b = w0.heap.size + 1 ∨ b = w0.heap.size + 2 ∨ b = w0.heap.size + 2 + 1) X Y) : LiI w0 B pre Y := by
  obtain ⟨v, hv, hr⟩ := h.ex
  refine ⟨⟨v, (k.block _ hv.lt (by omega)).trans hv, ownsRow_same hr (fun b hb => ?_)⟩, h.keep.trans k (fun i hi => .inr (by omega))⟩
  obtain ⟨h1, h2⟩ := hr.lt b hb
  exact k.block b h2 (by omega)

set_option maxHeartbeats 4000000 in
theorem lines_any {w : World} (s : ByteArray) (hs : s.size ≤ 1000000) : Calls Tryz.prog 16 #[.string s] w (AnsL (linesL s.data.toList) w) := by
  obtain ⟨i0, hi, hz0, hz1, hz2⟩ := info_parts Tryz.infoS
  have HW : Hid (w = w) := Lib.hid rfl
  refine (callsIn_wide (n := 12)).1 ?_
  refine callsIn_of_wp_marks Tryz.func16 rfl trivial ?_ rfl
  simp only [Tryz.ntmps16, List.size_toArray, List.length_cons, List.length_nil, Nat.reduceAdd, Nat.reduceSub, Array.replicate_succ, Array.replicate_zero, List.push_toArray, List.append_toArray, List.nil_append, List.cons_append]
  gi_wp2_with (refine ⟨trivial, ?_⟩; gi_at_call 36; refine (callsIn_wide.2 (strLines_any s)).mono ?_; rintro e w' ⟨rfl, rfl⟩)
  have bL0 := Boxed.new w 57 (.slice none 0 0)
  have bS := Boxed.new (w.alloc (.cells #[.slice none 0 0] 57)) 9 (.string s)
  rw [World.size_alloc] at bS
  have bL := bL0.alloc (.cells #[.string s] 9)
  have k0 : Keep (fun _ => False) w ((w.alloc (.cells #[.slice none 0 0] 57)).alloc (.cells #[.string s] 9)) := ((Keep.refl _ w).alloc _).alloc _
  have hsz : ((w.alloc (.cells #[.slice none 0 0] 57)).alloc (.cells #[.string s] 9)).heap.size = w.heap.size + 2 := by simp
  generalize (w.alloc (.cells #[.slice none 0 0] 57)).alloc (.cells #[.string s] 9) = W0 at bS bL k0 hsz ⊢
  clear bL0
  have hraw : (rawGo [] s.data.toList).length ≤ 1000001 := by have := rawGo_len s.data.toList []; rw [str_len] at this; omega
  have hlin : (rawGo [] s.data.toList).map lineF = linesL s.data.toList := lines_raw _ _ (fun c hc => by simp at hc)
  have eS : (⟨s.data.toList.toArray⟩ : ByteArray) = s := str_eta s
  refine range_box (n := 12) (Bs := w.heap.size + 1) (S := rawGo [] s.data.toList) (gf := 89) (lb := #[.pointer (some ⟨w.heap.size + 1, 0, none⟩)]) (encs := fun x : List UInt8 => #[Value.string ⟨x.toArray⟩]) rfl (by omega) rfl trivial (enters_of Tryz.func89 (by kernel_rfl) rfl)
    (linesSeq_any 11 (by omega) (w.heap.size + 1) s.data.toList (by rw [str_len]; exact hs) W0 (by rw [eS]; exact bS)) (by omega) (fun _ => rfl)
    (LiI w (w.heap.size + 4)) (fun pre X Y h k => h.kept rfl (k.mono fun b _ hb => by rw [hsz] at hb; exact hb)) ⟨⟨_, bL, World.ownsRow_nil _ _ _ _⟩, k0⟩
    (fun x => { tmps := #[.string s, undef, .slice none 0 0, .pointer (some ⟨w.heap.size, 0, none⟩), .string ⟨x.toArray⟩, undef, undef, .string s, .func (.func 89) #[] #[.pointer (some ⟨w.heap.size + 1, 0, none⟩)], .string ⟨x.toArray⟩, undef, undef, undef, undef, undef, undef, undef, undef, undef, undef, undef, undef, undef], defers := [] }) ?assign ?body ?done
  case assign =>
    intro l x W K hK
    gi_wp2
    exact hK
  case done =>
    intro W hI hge hD
    obtain ⟨v, hv, hr⟩ := hI.ex
    have hc := hv.cell
    have HI := Lib.hid hI
    have HR := Lib.hid hr
    clear hI hr hv
    gi_wp2
    rw [hsz] at hD
    refine ⟨by simp, .inl ⟨_, _, rfl, run_takeDeferred hD, ?_⟩⟩
    have KP : Keep (fun b => b = w.heap.size + 2) W (W.putObj (w.heap.size + 2) (.deferred none)) := keep_putObj _ _ _ rfl
    have hr2 := ownsRow_same HR.out (w' := W.putObj (w.heap.size + 2) (.deferred none)) (fun b hb => KP.block b (HR.out.lt b hb).2 (by have := (HR.out.lt b hb).1; omega))
    rw [hlin] at hr2
    refine ⟨_, results_tmp rfl _ _ _, v, rfl, ?_, fun b hb => by have := (hr2.lt b hb).1; omega, HI.out.keep.trans KP (fun i hi => .inr (by omega))⟩
    have := Row.of_owns hr2
    rw [← hlin, List.length_map, hlin]
    exact this
  case body =>
    intro l pre x W hI hpre hge
    obtain ⟨v, hv, hr⟩ := hI.ex
    have hplen : pre.length + 1 ≤ 1000001 := by
      have := hpre.length_le; rw [List.length_append, List.length_singleton] at this; omega
    have HXL : Hid (x.length ≤ 1000000) := Lib.hid (rawGo_mem_len (by rw [str_len]; exact hs) hpre)
    obtain ⟨t, ht⟩ : ∃ t : ByteArray, t = ⟨x.toArray⟩ := ⟨_, rfl⟩
    rw [← ht]
    have hc := hv.cell
    have HI := Lib.hid hI
    have HR := Lib.hid hr
    have HV := Lib.hid hv
    have HT := Lib.hid ht
    clear hI hr hv ht
    have hm : (pre.length + 1 : Nat) ≤ maxLen := by unfold maxLen; omega
    -- the end of a round, whatever line is put
    have HEND : Hid (∀ (u : ByteArray) (v' : Value) (w2 : World), lineF x = u.data.toList → w2.ownsRow (w.heap.size + 4) 9 1 v' (pre.length + 1) (scells (pre.map lineF) ++ [.string u]) →
        (W.alloc (.cells #[.string u] 9)).grownBy w2 v.ownBlock → Boxed w2 w.heap.size 57 v ∧
        (Keep (fun b => b ≠ w.heap.size + 1 ∧ b ≠ W0.heap.size ∧ b ≠ W0.heap.size + 1) W (w2.setCell ⟨w.heap.size, 0, none⟩ v') ∧ LiI w (w.heap.size + 4) (pre ++ [x]) (w2.setCell ⟨w.heap.size, 0, none⟩ v'))) := Lib.hid (by
      intro u v' w2 hu hown hgr
      have hv1 : Boxed w2 w.heap.size 57 v := (HV.out.alloc _).kept hgr (HV.out.not_row (by decide) HR.out)
      have KK : Keep (fun b => b = w.heap.size ∨ w.heap.size + 4 ≤ b) W (w2.setCell ⟨w.heap.size, 0, none⟩ v') := Keep.setCell (((Keep.refl _ W).alloc _).grown hgr (fun k hk => .inl (.inr (HR.out.lt k hk).1))) _ _ (.inl (.inl rfl))
      refine ⟨hv1, KK.mono (fun b _ hb => by rw [hsz]; omega), ⟨v', hv1.set v', ?_⟩, HI.out.keep.trans KK (fun b hb => .inr (by omega))⟩
      have h2 := ownsRow_same hown (w' := w2.setCell ⟨w.heap.size, 0, none⟩ v') (fun b hb => Below.heap_setCell _ _ _ b (by have := (hown.lt b hb).1; show b ≠ w.heap.size; omega))
      rw [List.length_append, List.length_singleton, List.map_append, scells_append]
      rw [show scells ([x].map lineF) = [.string u] by unfold scells; rw [List.map_singleton, List.map_singleton, hu, str_eta]]
      exact h2)
    cases hx : Lib.hasSuffix x [10] with
    | false =>
      have C1 := Tryz.strings_CutSuffix t ⟨#[10]⟩ W (by have := HXL.out; rw [HT.out]; show x.length ≤ _; omega)
      rw [show t.data.toList = x by rw [HT.out], show (⟨#[10]⟩ : ByteArray).data.toList = [10] from rfl, hx] at C1
      have HL : Hid (lineF x = t.data.toList) := Lib.hid (by unfold lineF; rw [hx, HT.out]; rfl)
      gi_wp2_with (first
        | (refine ⟨trivial, ?_⟩; gi_at_call 37; refine (CallsIn.inRound l (callsIn_wide.2 C1)).mono ?_; rintro e w1 ⟨rfl, rfl⟩)
        | (gi_at_builtin; refine wpListIn_append_own _ rfl _ _ 57 rfl (w.heap.size + 4) 9 i0 (.string ⟨#[]⟩) 1 16 Tryz.underlying57 hi hz0 hz1 hz2 rfl (by decide) _ _ _ rfl (HR.out.alloc _) ⟨_, 0, none⟩ 1 1 [.string t] rfl rfl (cell_one_new _ _ _) (by simp [Value.oneCell']) hm (by omega) (by rw [World.size_alloc]; omega) ?_; intro v' w2 hown' hgrow _; obtain ⟨hv1, HE1, HE2⟩ := HEND.out t v' w2 HL.out hown' hgrow; obtain ⟨g', cap', rfl⟩ := ownsRow_succ hown'; have hc1 := hv1.cell; have hf1 := hv1.frozen; have HE := Lib.hid (And.intro HE1 HE2); clear HE1 HE2 hown' hgrow hv1))
      exact HE.out
    | true =>
      have C1 := Tryz.strings_CutSuffix t ⟨#[10]⟩ W (by have := HXL.out; rw [HT.out]; show x.length ≤ _; omega)
      rw [show t.data.toList = x by rw [HT.out], show (⟨#[10]⟩ : ByteArray).data.toList = [10] from rfl, hx] at C1
      obtain ⟨q, hq⟩ : ∃ q : ByteArray, q = ⟨(Lib.trimSuffix x [10]).toArray⟩ := ⟨_, rfl⟩
      have C2 := Tryz.strings_TrimSuffix q ⟨#[13]⟩ W (by have := HXL.out; have h2 := trim_len x [10]; rw [hq]; show (Lib.trimSuffix x [10]).length ≤ _; omega)
      rw [show q.data.toList = Lib.trimSuffix x [10] by rw [hq], show (⟨#[13]⟩ : ByteArray).data.toList = [13] from rfl] at C2
      rw [← hq] at C1
      obtain ⟨u, hu⟩ : ∃ u : ByteArray, u = ⟨(Lib.trimSuffix (Lib.trimSuffix x [10]) [13]).toArray⟩ := ⟨_, rfl⟩
      rw [← hu] at C2
      have HL : Hid (lineF x = u.data.toList) := Lib.hid (by unfold lineF; rw [hx, hu, if_pos rfl])
      clear hq hu hx
      gi_wp2_with (first
        | (refine ⟨trivial, ?_⟩; gi_at_call 37; refine (CallsIn.inRound l (callsIn_wide.2 C1)).mono ?_; rintro e w1 ⟨rfl, rfl⟩)
        | (refine ⟨trivial, ?_⟩; gi_at_call 38; refine (CallsIn.inRound l (callsIn_wide.2 C2)).mono ?_; rintro e w1 ⟨rfl, rfl⟩)
        | (gi_at_builtin; refine wpListIn_append_own _ rfl _ _ 57 rfl (w.heap.size + 4) 9 i0 (.string ⟨#[]⟩) 1 16 Tryz.underlying57 hi hz0 hz1 hz2 rfl (by decide) _ _ _ rfl (HR.out.alloc _) ⟨_, 0, none⟩ 1 1 [.string u] rfl rfl (cell_one_new _ _ _) (by simp [Value.oneCell']) hm (by omega) (by rw [World.size_alloc]; omega) ?_; intro v' w2 hown' hgrow _; obtain ⟨hv1, HE1, HE2⟩ := HEND.out u v' w2 HL.out hown' hgrow; obtain ⟨g', cap', rfl⟩ := ownsRow_succ hown'; have hc1 := hv1.cell; have hf1 := hv1.frozen; have HE := Lib.hid (And.intro HE1 HE2); clear HE1 HE2 hown' hgrow hv1))
      exact HE.out
end Go.Proofs.YtcodbomgodkcmaaGreatDoor.Lin
