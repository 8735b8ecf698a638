/- codec: a number behind a buffer; a text. -/
import Derived.Test.YtmibepjfbapbdaaCdB
namespace Go.Proofs.Ytmibepjfbapbdaa.Cd
open Go.RowKit Go.Proofs.Ytmibepjfbapbdaa
set_option maxRecDepth 100000

structure NumR (N : Nat → Prop) (w0 : World) (bs : List UInt8) (U S : Nat) (v i : Value) (wr : World) : Prop where
  ex : ∃ j : Nat, j ≤ S ∧ i = .int .i64 (j : Int) ∧ ∃ a n c, v = .slice a n c ∧ Out N w0 wr (.slice a n c) (bs ++ UInt8.ofNat (247 + S) :: be (S - j) (U / 256 ^ j))

theorem NumR.step {N : Nat → Prop} {w0 wr : World} {bs : List UInt8} {U S m : Nat} {v : Value} (hm : m + 1 ≤ S) {c : UInt8} (hc : c = UInt8.ofNat (U / 256 ^ m % 256)) (h : Out N w0 wr v ((bs ++ UInt8.ofNat (247 + S) :: be (S - (m + 1)) (U / 256 ^ (m + 1))) ++ [c])) :
    NumR N w0 bs U S v (.int .i64 (m : Int)) wr := by
  obtain ⟨a, n, cp, rfl⟩ := h.slice
  refine ⟨m, by omega, rfl, a, n, cp, rfl, ?_⟩
  have e : be (S - m) (U / 256 ^ m) = be (S - (m + 1)) (U / 256 ^ (m + 1)) ++ [c] := by
    rw [show S - m = (S - (m + 1)) + 1 by omega, be_more, hc]
  rw [e]
  simpa using h

theorem shr_byte (U m : Nat) : (U : Int) / 2 ^ (8 * m) % 256 = ((UInt8.ofNat (U / 256 ^ m % 256)).toNat : Int) := by
  have e : (2 : Int) ^ (8 * m) = ((256 ^ m : Nat) : Int) := by
    rw [show (256 : Nat) = 2 ^ 8 from rfl, ← Nat.pow_mul, Int.natCast_pow]; rfl
  rw [ofNat_small (by omega), e]
  omega

theorem putNumber_any {N : Nat → Prop} {w0 w : World} {v : Value} {bs : List UInt8} (h : Out N w0 w v bs) {n : Int} (hn : okN n) (hl : bs.length + (encN n).length ≤ lim) :
    Calls Try.prog 21 #[v, .int .i64 n] w (Puts N w0 (bs ++ encN n)) := by
  have H := Lib.hid h
  have HT := Lib.hid (twisted_any hn w)
  have hlt := twist_lt hn
  have hE : encN n = if twist n < 248 then [UInt8.ofNat (twist n)] else UInt8.ofNat (247 + sizeB (twist n)) :: be (sizeB (twist n)) (twist n) := rfl
  rw [hE] at hl ⊢
  clear hE hn
  generalize twist n = U at *
  obtain ⟨ab, nb, cap, rfl⟩ := h.slice
  clear h
  by_cases hs : U < 248
  · rw [if_pos hs] at hl ⊢
    have HL2 := Lib.hid hl
    clear hl
    have hsi : (U : Int) < 248 := by omega
    have HB := Lib.hid (byte_of (show U < 256 by omega) rfl)
    clear hs
    go_enter Try.func21, Try.ntmps21
    go_wp2_with fail
    refine HT.out.mono ?_
    rintro e w2 ⟨rfl, rfl⟩
    go_wp2_with (refine wpList_append_out rfl (.tmp 11) (.tmp 14) rfl rfl (H.out.alloc _) rfl (one_src (UInt8.ofNat U) HB.out _ rfl) HL2.out ?_; intro v' w' h'; obtain ⟨a2, n2, c2, rfl⟩ := h'.slice; have H2 := Lib.hid h'; clear h')
    go_ret
    exact H2.out.puts
  · rw [if_neg hs] at hl ⊢
    rw [List.length_cons, be_length] at hl
    have HL := Lib.hid hl
    clear hl
    have hsi : 248 ≤ (U : Int) := by omega
    have hU : (U : Int) ≤ 18446744073709551615 := by omega
    have h8 := sizeB_le U
    have h1 := sizeB_pos (u := U) (by omega)
    have HZ := Lib.hid (fun w => size_any U hlt w)
    generalize sizeB U = S at *
    have h8i : (S : Int) ≤ 8 := by omega
    have HB := Lib.hid (byte_of (show 247 + S < 256 by omega) rfl)
    have HL2 : Hid (bs.length + [UInt8.ofNat (247 + S)].length ≤ lim) := Lib.hid (by have := HL.out; simp only [List.length_singleton]; omega)
    have HS := Lib.hid hlt
    have e1 : (247 : Int) + (S : Int) = ((247 + S : Nat) : Int) := by omega
    have HE1 := Lib.hid e1
    clear hs hlt e1
    go_enter Try.func21, Try.ntmps21
    go_wp2_with fail
    refine HT.out.mono ?_
    rintro e w2 ⟨rfl, rfl⟩
    go_wp2_with fail
    refine (HZ.out _).mono ?_
    rintro e w2 ⟨rfl, rfl⟩
    go_wp2_with (refine wpList_append_out rfl (.tmp 18) (.tmp 22) rfl rfl (H.out.alloc _) rfl (one_src (UInt8.ofNat (247 + S)) (by first | exact HB.out | (rw [HE1.out]; exact HB.out)) _ rfl) HL2.out ?_; intro v' w' h'; obtain ⟨a2, n2, c2, rfl⟩ := h'.slice; have H2 := Lib.hid h'; clear h')
    go_loopw [0, 6] (fun v i wr => NumR N w0 bs U S v i wr) (fun _ i _ => (intOf i).toNat)
    case atStart => 
      refine ⟨S, by omega, rfl, a2, n2, c2, rfl, ?_⟩
      have h9 := H2.out
      rwa [show S - S = 0 by omega]
    case round =>
      obtain ⟨j, hj, rfl, a3, n3, c3, rfl, hO⟩ := hrel.ex
      clear hrel
      have HO := Lib.hid hO
      clear hO
      by_cases h0 : j = 0
      · subst h0
        go_wp2
        go_ret
        have h9 := HO.out.puts
        simpa using h9
      · obtain ⟨m, rfl⟩ : ∃ m, j = m + 1 := ⟨j - 1, by omega⟩
        have hm8 : (m : Int) ≤ 7 := by omega
        have hB := Lib.hid (shr_byte U m)
        have HL3 : Hid ((bs ++ UInt8.ofNat (247 + S) :: be (S - (m + 1)) (U / 256 ^ (m + 1))).length + [UInt8.ofNat (U / 256 ^ m % 256)].length ≤ lim) := Lib.hid (by
          have := HL.out; simp only [List.length_append, List.length_cons, be_length, List.length_nil]; omega)
        have HJ := Lib.hid hj
        clear h0
        go_wp2_with (refine wpList_append_out rfl (.tmp 28) (.tmp 34) rfl rfl (HO.out.alloc _) rfl (one_src (UInt8.ofNat (U / 256 ^ m % 256)) hB.out _ rfl) HL3.out ?_; intro v' w' h'; obtain ⟨a4, n4, c4, rfl⟩ := h'.slice; have H4 := Lib.hid h'; clear h')
        go_roundw
        case rel =>
          (repeat apply Exists.intro)
          exact NumR.step HJ.out rfl H4.out
        case measure => simp [intOf]

/-- int, as a number. -/
theorem putInt_any {N : Nat → Prop} {w0 w : World} {v : Value} {bs : List UInt8} (h : Out N w0 w v bs) {n : Int} (hn : okN n) (hl : bs.length + (encN n).length ≤ lim) :
    Calls Try.prog 59 #[v, .int .i64 n] w (Puts N w0 (bs ++ encN n)) := by
  have HP := Lib.hid (putNumber_any h hn hl)
  obtain ⟨h1, h2⟩ := hn
  obtain ⟨ab, nb, cap, rfl⟩ := h.slice
  clear h
  go_enter Try.func59, Try.ntmps59
  go_wp2_with fail
  refine HP.out.mono ?_
  rintro e w2 ⟨a, n2, c, rfl, h⟩
  have H := Lib.hid h
  clear h
  go_wp2
  go_ret
  exact H.out.puts

theorem putText_any {N : Nat → Prop} {w0 w : World} {v : Value} {bs : List UInt8} (h : Out N w0 w v bs) (s : ByteArray) (hs : s.size < 2147483648) (hl : bs.length + (cT.enc s).length ≤ lim) :
    Calls Try.prog 60 #[v, .string s] w (Puts N w0 (bs ++ cT.enc s)) := by
  have e : cT.enc s = encL s.size ++ s.data.toList := rfl
  rw [e, List.length_append] at hl
  rw [e, ← List.append_assoc]
  clear e
  have HP := Lib.hid (putLength_any h s.size hs (by omega))
  have HL : Hid ((bs ++ encL s.size).length + s.data.toList.length ≤ lim) := Lib.hid (by rw [List.length_append]; omega)
  have hsz : (s.size : Int) ≤ 2147483647 := by omega
  have HS := Lib.hid (fun w => Src.ofString (P := Try.prog) w Try.underlying9 s)
  have eb : byteCells s = bcells s.data.toList := rfl
  rw [eb] at HS
  obtain ⟨ab, nb, cap, rfl⟩ := h.slice
  clear h eb hs hl
  generalize encL s.size = es at *
  generalize s.data.toList = ds at *
  go_enter Try.func60, Try.ntmps60
  go_wp2_with fail
  refine HP.out.mono ?_
  rintro e w2 ⟨a, n2, c, rfl, h⟩
  have H := Lib.hid h
  clear h
  go_wp2_with (refine wpList_append_out rfl (.tmp 8) (.tmp 9) rfl rfl H.out rfl (HS.out _) HL.out ?_; intro v' w' h'; obtain ⟨a4, n4, c4, rfl⟩ := h'.slice; have H4 := Lib.hid h'; clear h')
  go_ret
  exact H4.out.puts

end Go.Proofs.Ytmibepjfbapbdaa.Cd
