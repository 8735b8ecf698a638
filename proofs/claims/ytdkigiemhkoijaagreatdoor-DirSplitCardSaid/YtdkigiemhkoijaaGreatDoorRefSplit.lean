/- dirfs: the statement's own names of a path. -/
import Derived.Test.YtdkigiemhkoijaaGreatDoorSplit6
namespace Go.Proofs.YtdkigiemhkoijaaGreatDoor.Dir
open Go.RowKit Go.Maps Go.Proofs.YtdkigiemhkoijaaGreatDoor Go.Proofs.YtdkigiemhkoijaaGreatDoor.Ino
set_option maxRecDepth 100000

structure RsA (p : List UInt8) (w : World) (x : Ending) (w' : World) : Prop where
  or : (∃ L v, splitP p = some L ∧ x = .returned (.tuple #[v, .bool true]) ∧ Seen w' 1 v L.length (scells L) ∧ Keep (fun _ => False) w w') ∨ (splitP p = none ∧ ∃ v, x = .returned (.tuple #[v, .bool false]) ∧ Keep (fun _ => False) w w')

structure RfR (p : List UInt8) (w0 : World) (lv fv iv : Value) (wr : World) : Prop where
  ex : ∃ (k f : Nat) (done : List (List UInt8)), iv = .int .i64 (k : Int) ∧ fv = .int .i64 (f : Int) ∧ 1 ≤ f ∧ f ≤ k ∧ k ≤ p.length + 1 ∧ Row wr 9 1 lv done.length (scells done) ∧ (∀ b, lv.ownBlock = some b → w0.heap.size ≤ b) ∧ done.length + 1 ≤ k ∧ done.all mayB = true ∧ Keep (fun x => w0.heap.size ≤ x) w0 wr ∧
    ((k ≤ p.length ∧ pieces (p.drop 1) = done ++ pieces (p.drop f) ∧ ∀ c ∈ (p.drop f).take (k - f), c ≠ 47) ∨ (k = p.length + 1 ∧ pieces (p.drop 1) = done))

theorem rf_end {p : List UInt8} {f : Nat} (h : ∀ c ∈ (p.drop f).take (p.length - f), c ≠ 47) : pieces (p.drop f) = [(p.drop f).take (p.length - f)] := by
  have e : (p.drop f).take (p.length - f) = p.drop f := List.take_of_length_le (by simp)
  rw [e] at h ⊢
  exact pieces_none _ h

theorem rf_cut {p : List UInt8} {f k : Nat} (hf : f ≤ k) (hk : k < p.length) (hc : p[k] = 47) (h : ∀ c ∈ (p.drop f).take (k - f), c ≠ 47) : pieces (p.drop f) = (p.drop f).take (k - f) :: pieces (p.drop (k + 1)) := by
  have e : p.drop f = (p.drop f).take (k - f) ++ 47 :: p.drop (k + 1) := by
    conv => lhs; rw [← List.take_append_drop (k - f) (p.drop f)]
    congr 1
    rw [List.drop_drop, show f + (k - f) = k by omega, List.drop_eq_getElem_cons hk, hc]
  conv => lhs; rw [e]
  exact pieces_stroke _ _ h

theorem rf_go {p : List UInt8} {f k : Nat} (hf : f ≤ k) (hk : k < p.length) (hc : p[k] ≠ 47) (h : ∀ c ∈ (p.drop f).take (k - f), c ≠ 47) : ∀ c ∈ (p.drop f).take (k + 1 - f), c ≠ 47 := by
  intro c hm
  have e : (p.drop f).take (k + 1 - f) = (p.drop f).take (k - f) ++ [p[k]] := by
    rw [show k + 1 - f = (k - f) + 1 by omega, List.take_succ_eq_append_getElem (by simp; omega)]
    congr 2
    rw [List.getElem_drop]
    congr 1; omega
  rw [e] at hm
  rcases List.mem_append.1 hm with hm | hm
  · exact h c hm
  · simp at hm; rw [hm]; exact hc

theorem splitP_none {p r : List UInt8} (hp : p = 47 :: r) (hr : r ≠ []) {x : List UInt8} (hx : x ∈ pieces r) (hn : mayB x = false) : splitP p = none := by
  rw [hp, splitP, if_pos rfl, if_neg hr, if_neg]
  rintro ⟨h, _⟩
  have := List.all_eq_true.1 h x hx
  rw [hn] at this; cases this

theorem splitP_all {p r : List UInt8} (hp : p = 47 :: r) (hr : r ≠ []) (ha : (pieces r).all mayB = true) : splitP p = if (pieces r).length ≤ 8 then some (pieces r) else none := by
  rw [hp, splitP, if_pos rfl, if_neg hr]
  by_cases h : (pieces r).length ≤ 8
  · rw [if_pos ⟨ha, h⟩, if_pos h]
  · rw [if_neg (fun hh => h hh.2), if_neg h]

/-- What stands from f on: a piece, and what is behind it. -/
structure RfC (p : List UInt8) (f k : Nat) (pc : List UInt8) : Prop where
  or : (k = p.length ∧ pieces (p.drop f) = [pc]) ∨ (k < p.length ∧ pieces (p.drop f) = pc :: pieces (p.drop (k + 1)))

theorem RfC.cons {p : List UInt8} {f k : Nat} {pc : List UInt8} (h : RfC p f k pc) : ∃ rest, pieces (p.drop f) = pc :: rest := by
  rcases h.or with ⟨_, h⟩ | ⟨_, h⟩
  · exact ⟨[], h⟩
  · exact ⟨_, h⟩

theorem Tryz.infoS : (Tryz.prog.info? 9).map (fun i => (i.zero, i.size, i.bytes)) = some (some (.string ⟨#[]⟩), 1, 16) := by kernel_rfl

set_option maxHeartbeats 2000000 in
theorem refSplit_names {w : World} (s r : ByteArray) (hs : s.data.toList = 47 :: r.data.toList) (h0 : r.data.toList ≠ []) (hsz : s.size ≤ 300) : Calls Tryz.prog 7 #[.string s] w (RsA s.data.toList w) := by
  obtain ⟨i0, hi0, hz0, hz1, hz2⟩ := info_parts Tryz.infoS
  have hnl : s.toList ≠ [] := by rw [ByteArray.toList_eq, hs]; simp
  have e0 : s.toList.isEmpty = false := by simp [hnl]
  have e1 : (s.toList == [47]) = false := by
    rw [beq_eq_false_iff_ne, ByteArray.toList_eq, hs]
    intro e; injection e with _ e; exact h0 e
  have hs1 : 0 < s.size := by
    have : s.size = s.data.toList.length := rfl
    rw [this, hs]; simp
  have hc0 : s[0] = 47 := by
    have e : s[0] = s.data.toList[0]'(by rw [hs]; simp) := rfl
    rw [e]; simp [hs]
  have hb0 : ((s[0].toNat : Int) != 47) = false := by rw [hc0]; rfl
  obtain ⟨p, hp⟩ : ∃ p, p = s.data.toList := ⟨_, rfl⟩
  have hpl : p.length = s.size := by rw [hp]; rfl
  rw [← hp] at hs ⊢
  have HP := Lib.hid hp; have HS := Lib.hid hs; have H0 := Lib.hid h0; have HPL := Lib.hid hpl
  clear hp hs h0 hpl hnl hc0
  go_enter Tryz.func7, Tryz.ntmps7
  go_wp2
  go_loopw [4, 5, 6] (fun lv fv iv wr => RfR p w lv fv iv wr) (fun _ _ iv _ => s.size + 1 - (intOf iv).toNat)
  case atStart => exact ⟨1, 1, [], rfl, rfl, by omega, by omega, by omega, Row.nil _ _ _, fun b hb => by simp [Value.ownBlock] at hb, by simp, rfl, Keep.refl _ _, .inl ⟨by have := HPL.out; omega, by simp, by simp⟩⟩
  case round =>
    obtain ⟨k, f, done, rfl, rfl, hf1, hfk, hkn, hrow, hown, hdk, hall, hK, hmain⟩ := hrel.ex
    have HROW := Lib.hid hrow; have HOWN := Lib.hid hown; have HALL := Lib.hid hall; have HK := Lib.hid hK
    have hpl := HPL.out
    clear hrow hown hall hK hrel
    rcases hmain with ⟨hk, hpc, hno⟩ | ⟨hk, hpc⟩
    · have HPC := Lib.hid hpc; have HNO := Lib.hid hno
      have hks : k ≤ s.size := by omega
      have hd1 : decide (k ≤ s.size) = true := by rw [decide_eq_true_eq]; omega
      have hex : (s.extract f k).data.toList = (p.drop f).take (k - f) := by rw [HP.out]; exact Lib.extract_data s f k
      have HEX := Lib.hid hex
      have HMY := Lib.hid (fun w : World => refMay_any (s.extract f k) (w := w))
      rw [hex] at HMY
      have hdl : done.length ≤ 300 := by omega
      clear hpc hno hex hpl hkn
      by_cases hin : k = s.size ∨ ∃ h : k < s.size, s[k] = 47
      · obtain ⟨pc, hpcq⟩ : ∃ pc, pc = (p.drop f).take (k - f) := ⟨_, rfl⟩
        have HREST : Hid (RfC p f k pc) := Lib.hid (by
          have hp := HP.out
          have hl := HPL.out
          rcases hin with e | ⟨hlt, hc⟩
          · have hk' : k = p.length := by omega
            refine ⟨.inl ⟨hk', ?_⟩⟩
            rw [hpcq, hk']
            exact rf_end (by rw [← hk']; exact HNO.out)
          · have hlt' : k < p.length := by omega
            refine ⟨.inr ⟨hlt', ?_⟩⟩
            rw [hpcq]
            exact rf_cut hfk hlt' (by
              have e : p[k] = s[k] := by subst hp; rfl
              rw [e]; exact hc) HNO.out)
        rw [← hpcq] at HMY
        obtain ⟨x, hx⟩ : ∃ x, x = s.extract f k := ⟨_, rfl⟩
        have HX : Hid (x.data.toList = pc) := Lib.hid (by rw [hx, HEX.out, hpcq])
        have hfn : f ≤ s.size := by omega
        obtain ⟨va, vc, rfl, hvc1, hvc2⟩ := HROW.out.slice
        have HSE := Lib.hid hx
        by_cases hmb : mayB pc = true
        · rw [hmb] at HMY
          have HMB := Lib.hid hmb
          clear hpcq hx hmb
          rcases hin with e | ⟨hlt, hc⟩
          all_goals
            first
              | (have q1 : (k == s.size) = true := beq_iff_eq.2 e)
                (have q2 : ((k : Int) == (s.size : Int)) = true := by rw [beq_iff_eq]; omega)
                clear e
              | (have q1 : (k == s.size) = false := by rw [beq_eq_false_iff_ne]; omega)
                (have q2 : ((k : Int) == (s.size : Int)) = false := by rw [beq_eq_false_iff_ne]; omega)
                (have q3 : ((s[k].toNat : Int) == 47) = true := by rw [hc]; rfl)
                clear hc
            go_wp2_with (first | (go_at_call 10; (with_reducible refine (HMY.out _).mono ?_); rintro e w' ⟨rfl, rfl⟩) | (at_builtin; go_loud (refine wpList_append_row _ rfl (.tmp 38) (.tmp 43) rfl Tryz.underlying24 hi0 hz0 hz1 hz2 rfl rfl (HROW.out.alloc _) rfl (Src.lit Tryz.underlying24 #[.string (s.extract f k)] _ 1 1 rfl rfl (by simp [Value.oneCell'])) (by unfold maxLen; omega) (by omega) ?_)))
            intro v7 w2 hr2 hk2 hb2 _
            have hcell : scells done ++ #[Value.string (s.extract f k)].toList = scells (done ++ [pc]) := by
              have hx := HX.out
              rw [HSE.out] at hx
              simp only [scells, List.map_append, List.map_cons, List.map_nil]
              rw [← hx, str_eta]
            rw [hcell] at hr2
            have HR2 : Hid (Row w2 9 1 v7 (done ++ [pc]).length (scells (done ++ [pc]))) := Lib.hid (by rw [List.length_append]; exact hr2)
            have HOW2 : Hid (∀ b, v7.ownBlock = some b → w.heap.size ≤ b) := Lib.hid (fun b hb => by
              have hks := HK.out.size
              rcases hb2 b hb with h | h
              · exact HOWN.out b h
              · have h1 := h.1; first | omega | (simp at h1; omega))
            have HK2 : Hid (Keep (fun x => w.heap.size ≤ x) w w2) := Lib.hid ((HK.out.alloc _).trans hk2 (fun b hb => by
              have hks := HK.out.size
              exact .inl (HOWN.out b hb)))
            clear hcell hr2 hk2 hb2
            go_wp2
            go_roundw
            case rel =>
              refine ⟨k + 1, k + 1, done ++ [pc], by go_num, by go_num, by omega, by omega, by have := HPL.out; omega, HR2.out, HOW2.out, by simp; omega, by rw [List.all_append, HALL.out]; simp [HMB.out], HK2.out, ?_⟩
              have h1 := HPC.out
              have hl := HPL.out
              rcases HREST.out.or with ⟨e, h⟩ | ⟨e, h⟩
              · exact .inr ⟨by omega, by rw [h1, h]⟩
              · exact .inl ⟨by omega, by rw [h1, h, List.append_assoc]; rfl, by simp⟩
            case measure => simp [intOf]; omega
        · have hmf : mayB pc = false := by simpa using hmb
          rw [hmf] at HMY
          have HMF := Lib.hid hmf
          clear hpcq hx hmb hmf
          rcases hin with e | ⟨hlt, hc⟩
          all_goals
            first
              | (have q1 : (k == s.size) = true := beq_iff_eq.2 e)
                (have q2 : ((k : Int) == (s.size : Int)) = true := by rw [beq_iff_eq]; omega)
                clear e
              | (have q1 : (k == s.size) = false := by rw [beq_eq_false_iff_ne]; omega)
                (have q2 : ((k : Int) == (s.size : Int)) = false := by rw [beq_eq_false_iff_ne]; omega)
                (have q3 : ((s[k].toNat : Int) == 47) = true := by rw [hc]; rfl)
                clear hc
            go_wp2_with (go_at_call 10; (with_reducible refine (HMY.out _).mono ?_); rintro e w' ⟨rfl, rfl⟩)
            go_ret2
            exact ⟨.inr ⟨splitP_none HS.out H0.out (by
              have h1 := HPC.out
              rw [HS.out, show (47 :: r.data.toList).drop 1 = r.data.toList from rfl] at h1
              rw [h1, ← HS.out]
              obtain ⟨rest, hrest⟩ := HREST.out.cons
              rw [hrest]
              exact List.mem_append_right _ (List.mem_cons_self ..)) HMF.out, _, rfl, HK.out.mono (fun i hi h => by omega)⟩⟩
      · have hlt : k < s.size := by
          by_cases e : k = s.size
          · exact (hin (.inl e)).elim
          · omega
        have hne : ((k : Int) == (s.size : Int)) = false := by rw [beq_eq_false_iff_ne]; omega
        have hne2 : (k == s.size) = false := by rw [beq_eq_false_iff_ne]; omega
        have hc47 : s[k] ≠ 47 := fun e => hin (.inr ⟨hlt, e⟩)
        have hb : ((s[k].toNat : Int) == 47) = false := by
          rw [beq_eq_false_iff_ne]; intro e
          exact hc47 (UInt8.toNat_inj.1 (by have : (47 : UInt8).toNat = 47 := rfl; omega))
        have HPK : Hid (∀ h : k < p.length, p[k] ≠ 47) := Lib.hid (fun h => by
          have hp := HP.out
          have e : p[k] = s[k] := by subst hp; rfl
          rw [e]; exact hc47)
        clear hin hc47
        go_wp2
        go_roundw
        case rel => exact ⟨k + 1, f, done, by go_num, rfl, hf1, by omega, by have := HPL.out; omega, HROW.out, HOWN.out, by omega, HALL.out, HK.out, .inl ⟨by have := HPL.out; omega, HPC.out, rf_go hfk (by have := HPL.out; omega) (HPK.out _) HNO.out⟩⟩
        case measure => simp [intOf]; omega
    · have HPC := Lib.hid hpc
      have hd1 : decide (k ≤ s.size) = false := by rw [decide_eq_false_iff_not]; omega
      obtain ⟨va, vc, rfl, hvc1, hvc2⟩ := HROW.out.slice
      have hdl : done.length ≤ 300 := by omega
      have HKK := Lib.hid hk
      clear hpc hpl hkn hk
      have hSP := splitP_all HS.out H0.out (by
        have h1 := HPC.out
        rw [HS.out, show (47 :: r.data.toList).drop 1 = r.data.toList from rfl] at h1
        rw [h1]; exact HALL.out)
      have h1 := HPC.out
      rw [HS.out, show (47 :: r.data.toList).drop 1 = r.data.toList from rfl] at h1
      rw [h1] at hSP
      by_cases h8 : done.length ≤ 8
      · rw [if_pos h8] at hSP
        have HSP := Lib.hid hSP
        have hd8 : decide ((done.length : Int) ≤ 8) = true := by rw [decide_eq_true_eq]; omega
        clear hSP h1
        go_wp2
        go_ret2
        exact ⟨.inl ⟨done, _, HSP.out, rfl, HROW.out.seen, HK.out.mono (fun i hi h => by omega)⟩⟩
      · rw [if_neg h8] at hSP
        have HSP := Lib.hid hSP
        have hd8 : decide ((done.length : Int) ≤ 8) = false := by rw [decide_eq_false_iff_not]; omega
        clear hSP h1
        go_wp2
        go_ret2
        exact ⟨.inr ⟨HSP.out, _, rfl, HK.out.mono (fun i hi h => by omega)⟩⟩

end Go.Proofs.YtdkigiemhkoijaaGreatDoor.Dir
