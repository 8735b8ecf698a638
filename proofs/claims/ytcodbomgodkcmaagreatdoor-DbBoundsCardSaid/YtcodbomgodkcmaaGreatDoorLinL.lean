/- Texts: the reference's Lines. -/
import Derived.Test.YtcodbomgodkcmaaGreatDoorLinV
namespace Go.Proofs.YtcodbomgodkcmaaGreatDoor.Lin
open Go.RowKit Go.Maps Go.Proofs.YtcodbomgodkcmaaGreatDoor
set_option maxRecDepth 100000

structure LiR (p : List UInt8) (w0 : World) (lv fv iv : Value) (wr : World) : Prop where
  ex : ∃ (k f : Nat) (done : List (List UInt8)), iv = .int .i64 (k : Int) ∧ fv = .int .i64 (f : Int) ∧ f ≤ k ∧ k ≤ p.length ∧ Row wr 9 1 lv done.length (scells done) ∧ (∀ b, lv.ownBlock = some b → w0.heap.size ≤ b) ∧ done.length ≤ k ∧ Keep (fun x => w0.heap.size ≤ x) w0 wr ∧
    linesL p = done ++ linesGo ((p.drop f).take (k - f)) (p.drop k)

theorem strip_same {cur : List UInt8} (h : cur.getLast? ≠ some 13) : strip cur = cur := by unfold strip; rw [if_neg h]
theorem strip_13 {cur : List UInt8} (h : cur.getLast? = some 13) : strip cur = cur.dropLast := by unfold strip; rw [if_pos h]
theorem take_last {p : List UInt8} {f m : Nat} (hf : f ≤ m) (hm : m < p.length) : ((p.drop f).take (m + 1 - f)).getLast? = some p[m] ∧ ((p.drop f).take (m + 1 - f)).dropLast = (p.drop f).take (m - f) := by
  rw [← take_more hf hm]
  exact ⟨by rw [List.getLast?_append]; simp, by rw [List.dropLast_append_of_ne_nil (by simp)]; simp⟩

theorem byte_is (c k : UInt8) : (((c.toNat : Int) == (k.toNat : Int)) = true ∧ c = k) ∨ (((c.toNat : Int) == (k.toNat : Int)) = false ∧ c ≠ k) := by
  by_cases e : c = k
  · exact .inl ⟨by rw [e]; simp, e⟩
  · exact .inr ⟨by rw [beq_eq_false_iff_ne]; intro h; exact e (UInt8.toNat_inj.1 (by omega)), e⟩

set_option maxHeartbeats 2000000 in
theorem refLines_any (s : ByteArray) (hsz : s.size ≤ 1000000) {w : World} : Calls Tryz.prog 20 #[.string s] w (AnsL (linesL s.data.toList) w) := by
  obtain ⟨i0, hi0, hz0, hz1, hz2⟩ := info_parts Tryz.infoS
  obtain ⟨p, hp⟩ : ∃ p, p = s.data.toList := ⟨_, rfl⟩
  have hpl : p.length = s.size := by rw [hp]; rfl
  rw [← hp]
  have HP := Lib.hid hp; have HPL := Lib.hid hpl
  clear hp hpl
  go_enter Tryz.func20, Tryz.ntmps20
  go_wp2
  go_loopw [3, 4, 5, 6] (fun lv fv iv _ wr => LiR p w lv fv iv wr) (fun _ _ iv _ _ => s.size - (intOf iv).toNat)
  case atStart => exact ⟨0, 0, [], rfl, rfl, by omega, by omega, Row.nil _ _ _, fun b hb => by simp [Value.ownBlock] at hb, by simp, Keep.refl _ _, by simp [linesL]⟩
  case round =>
    obtain ⟨k, f, done, rfl, rfl, hfk, hkn, hrow, hown, hdk, hK, hw⟩ := hrel.ex
    have HROW := Lib.hid hrow; have HOWN := Lib.hid hown; have HK := Lib.hid hK; have HW := Lib.hid hw
    have hpl := HPL.out
    clear hrow hown hK hrel hw
    obtain ⟨va, vc, rfl, hvc1, hvc2⟩ := HROW.out.slice
    have hfn : f ≤ s.size := by omega
    have hkl : done.length + 1 ≤ 1000002 := by omega
    have HAPP := Lib.hid (fun (v : Value) (w2 : World) (x : List UInt8) (t : ByteArray) (ht : t.data.toList = x) (hr2 : Row w2 9 1 v (done.length + 1) (scells done ++ #[Value.string t].toList)) => show Row w2 9 1 v (done ++ [x]).length (scells (done ++ [x])) by
      have e : scells done ++ #[Value.string t].toList = scells (done ++ [x]) := by
        rw [scells_append]
        congr 1
        show [_] = [Value.string ⟨x.toArray⟩]
        rw [← ht, str_eta]
      rw [e] at hr2
      rw [List.length_append]; exact hr2)
    have HOWA := Lib.hid (fun (v : Value) (w2 : World) (hb2 : ∀ b, v.ownBlock = some b → (Value.slice va done.length vc).ownBlock = some b ∨ (wr.heap.size + 1 ≤ b ∧ b < w2.heap.size)) => show ∀ b, v.ownBlock = some b → w.heap.size ≤ b from fun b hb => by
      have hks := HK.out.size
      rcases hb2 b hb with h | h
      · exact HOWN.out b h
      · have h1 := h.1; omega)
    have HKA := Lib.hid (fun (w2 : World) (o : Obj) (hk2 : Keep (fun b => (Value.slice va done.length vc).ownBlock = some b) (wr.alloc o) w2) => show Keep (fun x => w.heap.size ≤ x) w w2 from (HK.out.alloc _).trans hk2 (fun b hb => .inl (HOWN.out b hb)))
    by_cases hlt : k < s.size
    · have hd1 : decide (k < s.size) = true := by simpa using hlt
      have HPK : Hid (∃ h : k < p.length, p[k] = s[k] ∧ p.drop k = s[k] :: p.drop (k + 1)) := Lib.hid (by
        have hp := HP.out
        subst hp
        exact ⟨hlt, rfl, List.drop_eq_getElem_cons (show k < s.data.toList.length from hlt)⟩)
      rcases byte_is s[k] 10 with ⟨c1, hc⟩ | ⟨c1, hc⟩
      · rw [show ((10 : UInt8).toNat : Int) = 10 from rfl] at c1
        have HC := Lib.hid hc
        clear hc
        have HNX : Hid (linesL p = done ++ (strip ((p.drop f).take (k - f)) :: linesGo [] (p.drop (k + 1)))) := Lib.hid (by
          obtain ⟨h1, h2, h3⟩ := HPK.out
          rw [HW.out, h3, HC.out, linesGo_ten])
        by_cases hcr : ∃ m, k = m + 1 ∧ f ≤ m ∧ ∃ h : m < s.size, s[m] = 13
        · obtain ⟨m, hm, hfm, hms, h13⟩ := hcr
          have e1 : (k : Int) - 1 = (m : Int) := by omega
          have d1 : decide ((f : Int) < (k : Int)) = true := by rw [decide_eq_true_eq]; omega
          have d1' : decide (f < k) = true := by rw [decide_eq_true_eq]; omega
          have d2 : ((s[m].toNat : Int) == 13) = true := by rw [h13]; rfl
          have HX : Hid ((s.extract f m).data.toList = strip ((p.drop f).take (k - f))) := Lib.hid (by
            have hp := HP.out
            have hml : m < p.length := by omega
            obtain ⟨t1, t2⟩ := take_last (p := p) hfm hml
            have hpm : p[m] = 13 := by subst hp; exact h13
            rw [Lib.extract_data, ← hp, hm, strip_13 (by rw [t1, hpm]), t2])
          have HM := Lib.hid hm
          clear hm h13
          go_wp2_with (at_builtin; go_loud (refine wpList_append_row _ rfl (.tmp 30) (.tmp 35) rfl Tryz.underlying57 hi0 hz0 hz1 hz2 rfl rfl (HROW.out.alloc _) rfl (Src.lit Tryz.underlying57 #[.string (s.extract f m)] _ 1 1 rfl rfl (by simp [Value.oneCell'])) (by unfold maxLen; omega) (by omega) ?_))
          intro v7 w2 hr2 hk2 hb2 _
          have HR2 := Lib.hid (HAPP.out v7 w2 _ _ HX.out hr2)
          have HOW2 := Lib.hid (HOWA.out v7 w2 hb2)
          have HK2 := Lib.hid (HKA.out w2 _ hk2)
          clear hr2 hk2 hb2
          go_wp2
          go_roundw
          case rel => exact ⟨k + 1, k + 1, _, by go_num, by go_num, by omega, by omega, HR2.out, HOW2.out, by simp; omega, HK2.out, by rw [HNX.out]; simp⟩
          case measure => simp [intOf]; omega
        · have HX : Hid ((s.extract f k).data.toList = strip ((p.drop f).take (k - f))) := Lib.hid (by
            rw [Lib.extract_data, ← HP.out, strip_same]
            intro e
            by_cases hfk2 : f < k
            · obtain ⟨m, rfl⟩ : ∃ m, k = m + 1 := ⟨k - 1, by omega⟩
              have hml : m < p.length := by omega
              rw [(take_last (p := p) (by omega) hml).1] at e
              refine hcr ⟨m, rfl, by omega, by omega, ?_⟩
              have hp := HP.out
              subst hp
              exact Option.some.inj e
            · rw [show k - f = 0 by omega] at e; simp at e)
          by_cases hfk2 : f < k
          · obtain ⟨m, hm⟩ : ∃ m, k = m + 1 := ⟨k - 1, by omega⟩
            have hms : m < s.size := by omega
            have e1 : (k : Int) - 1 = (m : Int) := by omega
            have d1 : decide ((f : Int) < (k : Int)) = true := by rw [decide_eq_true_eq]; omega
            have d1' : decide (f < k) = true := by rw [decide_eq_true_eq]; omega
            have d2 : ((s[m].toNat : Int) == 13) = false := by
              rcases byte_is s[m] 13 with ⟨_, h⟩ | ⟨h, _⟩
              · exact (hcr ⟨m, hm, by omega, hms, h⟩).elim
              · exact h
            have HM := Lib.hid hm
            clear hm hcr
            go_wp2_with (at_builtin; go_loud (refine wpList_append_row _ rfl (.tmp 30) (.tmp 35) rfl Tryz.underlying57 hi0 hz0 hz1 hz2 rfl rfl (HROW.out.alloc _) rfl (Src.lit Tryz.underlying57 #[.string (s.extract f k)] _ 1 1 rfl rfl (by simp [Value.oneCell'])) (by unfold maxLen; omega) (by omega) ?_))
            intro v7 w2 hr2 hk2 hb2 _
            have HR2 := Lib.hid (HAPP.out v7 w2 _ _ HX.out hr2)
            have HOW2 := Lib.hid (HOWA.out v7 w2 hb2)
            have HK2 := Lib.hid (HKA.out w2 _ hk2)
            clear hr2 hk2 hb2
            go_wp2
            go_roundw
            case rel => exact ⟨k + 1, k + 1, _, by go_num, by go_num, by omega, by omega, HR2.out, HOW2.out, by simp; omega, HK2.out, by rw [HNX.out]; simp⟩
            case measure => simp [intOf]; omega
          · have d1 : decide ((f : Int) < (k : Int)) = false := by rw [decide_eq_false_iff_not]; omega
            have d1' : decide (f < k) = false := by rw [decide_eq_false_iff_not]; omega
            clear hcr
            go_wp2_with (at_builtin; go_loud (refine wpList_append_row _ rfl (.tmp 30) (.tmp 35) rfl Tryz.underlying57 hi0 hz0 hz1 hz2 rfl rfl (HROW.out.alloc _) rfl (Src.lit Tryz.underlying57 #[.string (s.extract f k)] _ 1 1 rfl rfl (by simp [Value.oneCell'])) (by unfold maxLen; omega) (by omega) ?_))
            intro v7 w2 hr2 hk2 hb2 _
            have HR2 := Lib.hid (HAPP.out v7 w2 _ _ HX.out hr2)
            have HOW2 := Lib.hid (HOWA.out v7 w2 hb2)
            have HK2 := Lib.hid (HKA.out w2 _ hk2)
            clear hr2 hk2 hb2
            go_wp2
            go_roundw
            case rel => exact ⟨k + 1, k + 1, _, by go_num, by go_num, by omega, by omega, HR2.out, HOW2.out, by simp; omega, HK2.out, by rw [HNX.out]; simp⟩
            case measure => simp [intOf]; omega
      · rw [show ((10 : UInt8).toNat : Int) = 10 from rfl] at c1
        have HC := Lib.hid hc
        clear hc
        go_wp2
        go_roundw
        case rel =>
          refine ⟨k + 1, f, done, by go_num, rfl, by omega, by omega, HROW.out, HOWN.out, by omega, HK.out, ?_⟩
          obtain ⟨h1, h2, h3⟩ := HPK.out
          rw [HW.out, h3, linesGo_other HC.out, ← h2, take_more hfk h1]
        case measure => simp [intOf]; omega
    · have hd1 : decide (k < s.size) = false := by rw [decide_eq_false_iff_not]; omega
      have hk : k = p.length := by omega
      have HKE := Lib.hid hk
      clear hk
      by_cases hfl : f < s.size
      · have d1 : decide (f < s.size) = true := by simpa using hfl
        have d1' : decide ((f : Int) < (s.size : Int)) = true := by rw [decide_eq_true_eq]; omega
        have HX : Hid ((s.extract f s.size).data.toList = (p.drop f).take (k - f)) := Lib.hid (by
          rw [Lib.extract_data, ← HP.out, HKE.out, HPL.out])
        go_wp2_with (at_builtin; go_loud (refine wpList_append_row _ rfl (.tmp 43) (.tmp 47) rfl Tryz.underlying57 hi0 hz0 hz1 hz2 rfl rfl (HROW.out.alloc _) rfl (Src.lit Tryz.underlying57 #[.string (s.extract f s.size)] _ 1 1 rfl rfl (by simp [Value.oneCell'])) (by unfold maxLen; omega) (by omega) ?_))
        intro v7 w2 hr2 hk2 hb2 _
        have HR2 := Lib.hid (HAPP.out v7 w2 _ _ HX.out hr2)
        have HOW2 := Lib.hid (HOWA.out v7 w2 hb2)
        have HK2 := Lib.hid (HKA.out w2 _ hk2)
        clear hr2 hk2 hb2
        go_wp2
        go_ret
        refine ⟨_, rfl, ?_, HOW2.out, HK2.out.mono (fun i hi h => by omega)⟩
        rw [HW.out, show p.drop k = [] from List.drop_eq_nil_of_le (by have := HKE.out; omega), linesGo_end, if_neg (by
          intro e
          have := congrArg List.length e
          have hk := HKE.out
          simp at this
          omega)]
        exact HR2.out
      · have d1 : decide (f < s.size) = false := by rw [decide_eq_false_iff_not]; omega
        have d1' : decide ((f : Int) < (s.size : Int)) = false := by rw [decide_eq_false_iff_not]; omega
        go_wp2
        go_ret
        refine ⟨_, rfl, ?_, HOWN.out, HK.out.mono (fun i hi h => by omega)⟩
        rw [HW.out, HKE.out, List.drop_eq_nil_of_le (Nat.le_refl _), linesGo_end, if_pos (by rw [List.drop_eq_nil_of_le (by omega)]; simp), List.append_nil]
        exact HROW.out
end Go.Proofs.YtcodbomgodkcmaaGreatDoor.Lin
