/- Texts: the reference's Words. -/
import Derived.Test.YtcodbomgodkcmaaGreatDoorLinW
import Derived.Lib.IndexBytes
namespace Go.Proofs.YtcodbomgodkcmaaGreatDoor.Lin
open Go.RowKit Go.Maps Go.Proofs.YtcodbomgodkcmaaGreatDoor
set_option maxRecDepth 100000

def scells (L : List (List UInt8)) : List Value := L.map fun x => Value.string ⟨x.toArray⟩
theorem scells_length (L : List (List UInt8)) : (scells L).length = L.length := by simp [scells]
theorem scells_get {L : List (List UInt8)} {k : Nat} (hk : k < L.length) : (scells L)[k]? = some (.string ⟨L[k].toArray⟩) := by simp [scells, hk]
theorem scells_append (L M : List (List UInt8)) : scells (L ++ M) = scells L ++ scells M := by simp [scells]
theorem str_eta (s : ByteArray) : (⟨s.data.toList.toArray⟩ : ByteArray) = s := by cases s; rfl

theorem Tryz.infoS : (Tryz.prog.info? 9).map (fun i => (i.zero, i.size, i.bytes)) = some (some (.string ⟨#[]⟩), 1, 16) := by kernel_rfl

/-- A new list of texts is answered. -/
def AnsL (L : List (List UInt8)) (w : World) (e : Ending) (w' : World) : Prop :=
  ∃ v, e = .returned v ∧ Row w' 9 1 v L.length (scells L) ∧ (∀ b, v.ownBlock = some b → w.heap.size ≤ b) ∧ Keep (fun _ => False) w w'

/-- Where words stand: from is -1 (none stands), or where one begins. -/
structure WoR (p : List UInt8) (w0 : World) (lv fv iv : Value) (wr : World) : Prop where
  ex : ∃ (k : Nat) (done : List (List UInt8)), iv = .int .i64 (k : Int) ∧ k ≤ p.length + 1 ∧ Row wr 9 1 lv done.length (scells done) ∧ (∀ b, lv.ownBlock = some b → w0.heap.size ≤ b) ∧ done.length ≤ k ∧ Keep (fun x => w0.heap.size ≤ x) w0 wr ∧
    ((k = p.length + 1 ∧ wordsL p = done ∧ fv = .int .i64 (-1)) ∨ (k ≤ p.length ∧ fv = .int .i64 (-1) ∧ wordsL p = done ++ wordsGo [] (p.drop k)) ∨
     (k ≤ p.length ∧ ∃ f : Nat, fv = .int .i64 (f : Int) ∧ f < k ∧ wordsL p = done ++ wordsGo ((p.drop f).take (k - f)) (p.drop k)))

theorem take_more {p : List UInt8} {f k : Nat} (hf : f ≤ k) (hk : k < p.length) : (p.drop f).take (k - f) ++ [p[k]] = (p.drop f).take (k + 1 - f) := by
  rw [show k + 1 - f = (k - f) + 1 by omega, List.take_succ_eq_append_getElem (by simp; omega)]
  congr 2
  rw [List.getElem_drop]
  congr 1; omega
theorem take_ne {p : List UInt8} {f k : Nat} (hf : f < k) (hk : k ≤ p.length) : (p.drop f).take (k - f) ≠ [] := by
  intro e
  have := congrArg List.length e
  simp at this
  omega

theorem blank_cases (c : UInt8) : (((c.toNat : Int) == 32) = true ∧ isBlank c = true) ∨ (((c.toNat : Int) == 32) = false ∧ ((c.toNat : Int) == 9) = true ∧ isBlank c = true) ∨ (((c.toNat : Int) == 32) = false ∧ ((c.toNat : Int) == 9) = false ∧ isBlank c = false) := by
  have h : ∀ k : UInt8, ((c.toNat : Int) == (k.toNat : Int)) = (c == k) := fun k => by
    rw [Bool.eq_iff_iff]
    simp only [beq_iff_eq]
    exact ⟨fun e => UInt8.toNat_inj.1 (by omega), fun e => by rw [e]⟩
  have h1 := h 32
  have h2 := h 9
  rw [show ((32 : UInt8).toNat : Int) = 32 from rfl] at h1
  rw [show ((9 : UInt8).toNat : Int) = 9 from rfl] at h2
  rw [h1, h2]
  unfold isBlank
  cases c == 32 <;> cases c == 9 <;> simp

set_option maxHeartbeats 2000000 in
theorem refWords_any (s : ByteArray) (hsz : s.size ≤ 1000000) {w : World} : Calls Tryz.prog 21 #[.string s] w (AnsL (wordsL s.data.toList) w) := by
  obtain ⟨i0, hi0, hz0, hz1, hz2⟩ := info_parts Tryz.infoS
  obtain ⟨p, hp⟩ : ∃ p, p = s.data.toList := ⟨_, rfl⟩
  have hpl : p.length = s.size := by rw [hp]; rfl
  rw [← hp]
  have HP := Lib.hid hp; have HPL := Lib.hid hpl
  clear hp hpl
  go_enter Tryz.func21, Tryz.ntmps21
  go_wp2
  go_loopw [3, 4, 5, 6] (fun lv fv iv _ wr => WoR p w lv fv iv wr) (fun _ _ iv _ _ => s.size + 1 - (intOf iv).toNat)
  case atStart => exact ⟨0, [], rfl, by omega, Row.nil _ _ _, fun b hb => by simp [Value.ownBlock] at hb, by simp, Keep.refl _ _, .inr (.inl ⟨by omega, rfl, rfl⟩)⟩
  case round =>
    obtain ⟨k, done, rfl, hkn, hrow, hown, hdk, hK, hmain⟩ := hrel.ex
    have HROW := Lib.hid hrow; have HOWN := Lib.hid hown; have HK := Lib.hid hK
    have hpl := HPL.out
    clear hrow hown hK hrel
    obtain ⟨va, vc, rfl, hvc1, hvc2⟩ := HROW.out.slice
    rcases hmain with ⟨hk, hw, rfl⟩ | ⟨hk, rfl, hw⟩ | ⟨hk, f, rfl, hf, hw⟩
    · have HW := Lib.hid hw
      have hd1 : decide (k ≤ s.size) = false := by rw [decide_eq_false_iff_not]; omega
      clear hw
      go_wp2
      go_ret
      exact ⟨_, rfl, by rw [HW.out]; exact HROW.out, HOWN.out, HK.out.mono (fun i hi h => by omega)⟩
    · have HW := Lib.hid hw
      clear hw
      have hd1 : decide (k ≤ s.size) = true := by rw [decide_eq_true_eq]; omega
      by_cases hke : k = s.size
      · have q1 : (k == s.size) = true := beq_iff_eq.2 hke
        have q2 : ((k : Int) == (s.size : Int)) = true := by rw [beq_iff_eq]; omega
        have HKE := Lib.hid hke
        clear hke
        go_wp2
        go_roundw
        case rel =>
          refine ⟨k + 1, done, by go_num, by omega, HROW.out, HOWN.out, by omega, HK.out, .inl ⟨by have := HKE.out; omega, ?_, rfl⟩⟩
          rw [HW.out, List.drop_eq_nil_of_le (by have := HKE.out; omega)]; simp [wordsGo_end]
        case measure => simp [intOf]; omega
      · have hlt : k < s.size := by omega
        have q1 : (k == s.size) = false := by rw [beq_eq_false_iff_ne]; omega
        have q2 : ((k : Int) == (s.size : Int)) = false := by rw [beq_eq_false_iff_ne]; omega
        have HPK : Hid (p.drop k = s[k] :: p.drop (k + 1)) := Lib.hid (by
          have hp := HP.out
          subst hp
          exact List.drop_eq_getElem_cons (show k < s.data.toList.length from hlt))
        clear hke
        rcases blank_cases s[k] with ⟨b1, hb⟩ | ⟨b1, b2, hb⟩ | ⟨b1, b2, hb⟩
        · have HB := Lib.hid hb
          clear hb
          go_wp2
          go_roundw
          case rel =>
            refine ⟨k + 1, done, by go_num, by omega, HROW.out, HOWN.out, by omega, HK.out, .inr (.inl ⟨by omega, rfl, ?_⟩)⟩
            rw [HW.out, HPK.out, wordsGo_blank HB.out]; simp
          case measure => simp [intOf]; omega
        · have HB := Lib.hid hb
          clear hb
          go_wp2
          go_roundw
          case rel =>
            refine ⟨k + 1, done, by go_num, by omega, HROW.out, HOWN.out, by omega, HK.out, .inr (.inl ⟨by omega, rfl, ?_⟩)⟩
            rw [HW.out, HPK.out, wordsGo_blank HB.out]; simp
          case measure => simp [intOf]; omega
        · have HB := Lib.hid hb
          clear hb
          go_wp2
          go_roundw
          case rel =>
            refine ⟨k + 1, done, by go_num, by omega, HROW.out, HOWN.out, by omega, HK.out, .inr (.inr ⟨by omega, k, rfl, by omega, ?_⟩)⟩
            rw [HW.out, HPK.out, wordsGo_other HB.out]; simp
          case measure => simp [intOf]; omega
    · have HW := Lib.hid hw
      clear hw
      have hd1 : decide (k ≤ s.size) = true := by rw [decide_eq_true_eq]; omega
      have hfn : f ≤ s.size := by omega
      have hex : (s.extract f k).data.toList = (p.drop f).take (k - f) := by rw [HP.out]; exact Lib.extract_data s f k
      have HEX := Lib.hid hex
      clear hex
      have HAPP := Lib.hid (fun (v : Value) (w2 : World) (hr2 : Row w2 9 1 v (done.length + 1) (scells done ++ #[Value.string (s.extract f k)].toList)) => show Row w2 9 1 v (done ++ [(p.drop f).take (k - f)]).length (scells (done ++ [(p.drop f).take (k - f)])) by
        have e : scells done ++ #[Value.string (s.extract f k)].toList = scells (done ++ [(p.drop f).take (k - f)]) := by
          rw [scells_append]
          congr 1
          show [_] = [Value.string ⟨((p.drop f).take (k - f)).toArray⟩]
          rw [← HEX.out, str_eta]
        rw [e] at hr2
        rw [List.length_append]; exact hr2)
      have hkl : done.length + 1 ≤ 1000002 := by omega
      have HFIN : Hid (∀ (r : List (List UInt8)), wordsGo ((p.drop f).take (k - f)) (p.drop k) = (p.drop f).take (k - f) :: r → wordsL p = (done ++ [(p.drop f).take (k - f)]) ++ r) := Lib.hid (fun r h => by rw [HW.out, h]; simp)
      by_cases hke : k = s.size
      · have q1 : (k == s.size) = true := beq_iff_eq.2 hke
        have q2 : ((k : Int) == (s.size : Int)) = true := by rw [beq_iff_eq]; omega
        have HKE := Lib.hid hke
        clear hke
        go_wp2_with (at_builtin; go_loud (refine wpList_append_row _ rfl (.tmp 34) (.tmp 39) rfl Tryz.underlying57 hi0 hz0 hz1 hz2 rfl rfl (HROW.out.alloc _) rfl (Src.lit Tryz.underlying57 #[.string (s.extract f k)] _ 1 1 rfl rfl (by simp [Value.oneCell'])) (by unfold maxLen; omega) (by omega) ?_))
        intro v7 w2 hr2 hk2 hb2 _
        have HR2 := Lib.hid (HAPP.out v7 w2 hr2)
        have HOW2 : Hid (∀ b, v7.ownBlock = some b → w.heap.size ≤ b) := Lib.hid (fun b hb => by
          have hks := HK.out.size
          rcases hb2 b hb with h | h
          · exact HOWN.out b h
          · have h1 := h.1; first | omega | (simp at h1; omega))
        have HK2 : Hid (Keep (fun x => w.heap.size ≤ x) w w2) := Lib.hid ((HK.out.alloc _).trans hk2 (fun b hb => .inl (HOWN.out b hb)))
        clear hr2 hk2 hb2
        go_wp2
        go_roundw
        case rel =>
          refine ⟨k + 1, done ++ [(p.drop f).take (k - f)], by go_num, by omega, HR2.out, HOW2.out, by simp; omega, HK2.out, .inl ⟨by have := HKE.out; omega, ?_, rfl⟩⟩
          rw [HFIN.out [] (by rw [List.drop_eq_nil_of_le (show p.length ≤ k by have := HKE.out; omega), wordsGo_end, if_neg (take_ne hf hk)]), List.append_nil]
        case measure => simp [intOf]; omega
      · have hlt : k < s.size := by omega
        have q1 : (k == s.size) = false := by rw [beq_eq_false_iff_ne]; omega
        have q2 : ((k : Int) == (s.size : Int)) = false := by rw [beq_eq_false_iff_ne]; omega
        have HPK : Hid (∃ h : k < p.length, p[k] = s[k] ∧ p.drop k = s[k] :: p.drop (k + 1)) := Lib.hid (by
          have hp := HP.out
          subst hp
          exact ⟨hlt, rfl, List.drop_eq_getElem_cons (show k < s.data.toList.length from hlt)⟩)
        clear hke
        rcases blank_cases s[k] with ⟨b1, hb⟩ | ⟨b1, b2, hb⟩ | ⟨b1, b2, hb⟩
        · have HB := Lib.hid hb
          clear hb
          go_wp2_with (at_builtin; go_loud (refine wpList_append_row _ rfl (.tmp 34) (.tmp 39) rfl Tryz.underlying57 hi0 hz0 hz1 hz2 rfl rfl (HROW.out.alloc _) rfl (Src.lit Tryz.underlying57 #[.string (s.extract f k)] _ 1 1 rfl rfl (by simp [Value.oneCell'])) (by unfold maxLen; omega) (by omega) ?_))
          intro v7 w2 hr2 hk2 hb2 _
          have HR2 := Lib.hid (HAPP.out v7 w2 hr2)
          have HOW2 : Hid (∀ b, v7.ownBlock = some b → w.heap.size ≤ b) := Lib.hid (fun b hb => by
            have hks := HK.out.size
            rcases hb2 b hb with h | h
            · exact HOWN.out b h
            · have h1 := h.1; first | omega | (simp at h1; omega))
          have HK2 : Hid (Keep (fun x => w.heap.size ≤ x) w w2) := Lib.hid ((HK.out.alloc _).trans hk2 (fun b hb => .inl (HOWN.out b hb)))
          clear hr2 hk2 hb2
          go_wp2
          go_roundw
          case rel =>
            refine ⟨k + 1, done ++ [(p.drop f).take (k - f)], by go_num, by omega, HR2.out, HOW2.out, by simp; omega, HK2.out, .inr (.inl ⟨by omega, rfl, ?_⟩)⟩
            obtain ⟨h1, h2, h3⟩ := HPK.out
            exact HFIN.out _ (by rw [h3, wordsGo_blank HB.out, if_neg (take_ne hf hk)]; rfl)
          case measure => simp [intOf]; omega
        · have HB := Lib.hid hb
          clear hb
          go_wp2_with (at_builtin; go_loud (refine wpList_append_row _ rfl (.tmp 34) (.tmp 39) rfl Tryz.underlying57 hi0 hz0 hz1 hz2 rfl rfl (HROW.out.alloc _) rfl (Src.lit Tryz.underlying57 #[.string (s.extract f k)] _ 1 1 rfl rfl (by simp [Value.oneCell'])) (by unfold maxLen; omega) (by omega) ?_))
          intro v7 w2 hr2 hk2 hb2 _
          have HR2 := Lib.hid (HAPP.out v7 w2 hr2)
          have HOW2 : Hid (∀ b, v7.ownBlock = some b → w.heap.size ≤ b) := Lib.hid (fun b hb => by
            have hks := HK.out.size
            rcases hb2 b hb with h | h
            · exact HOWN.out b h
            · have h1 := h.1; first | omega | (simp at h1; omega))
          have HK2 : Hid (Keep (fun x => w.heap.size ≤ x) w w2) := Lib.hid ((HK.out.alloc _).trans hk2 (fun b hb => .inl (HOWN.out b hb)))
          clear hr2 hk2 hb2
          go_wp2
          go_roundw
          case rel =>
            refine ⟨k + 1, done ++ [(p.drop f).take (k - f)], by go_num, by omega, HR2.out, HOW2.out, by simp; omega, HK2.out, .inr (.inl ⟨by omega, rfl, ?_⟩)⟩
            obtain ⟨h1, h2, h3⟩ := HPK.out
            exact HFIN.out _ (by rw [h3, wordsGo_blank HB.out, if_neg (take_ne hf hk)]; rfl)
          case measure => simp [intOf]; omega
        · have HB := Lib.hid hb
          clear hb
          go_wp2
          go_roundw
          case rel =>
            refine ⟨k + 1, done, by go_num, by omega, HROW.out, HOWN.out, by omega, HK.out, .inr (.inr ⟨by omega, f, rfl, by omega, ?_⟩)⟩
            obtain ⟨h1, h2, h3⟩ := HPK.out
            rw [HW.out, h3, wordsGo_other HB.out, ← h2, take_more (by omega) h1]
          case measure => simp [intOf]; omega
end Go.Proofs.YtcodbomgodkcmaaGreatDoor.Lin
