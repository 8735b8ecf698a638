/- codec: a buffer that grows; numbers, lengths, texts and bools behind it. -/
import Derived.Test.YtmibepjfbapbdaaCdA
import Derived.Laws.BitsAllLaws
namespace Go.Proofs.Ytmibepjfbapbdaa.Cd
open Go.RowKit Go.Proofs.Ytmibepjfbapbdaa
set_option maxRecDepth 100000

/-- How long a buffer may become. -/
def lim : Nat := 1099511627776

/-- A buffer that holds the bytes bs: no block of w0 but those of N has turned, and the buffer lies in one of N, or in one made since. -/
structure Out (N : Nat → Prop) (w0 w : World) (v : Value) (bs : List UInt8) : Prop where
  row : Row w 5 1 v bs.length (bcells bs)
  keep : Keep N w0 w
  new : ∀ b, v.ownBlock = some b → N b ∨ w0.heap.size ≤ b

/-- A slice's own block. -/
def own (v : Value) (b : Nat) : Prop := v.ownBlock = some b

section
variable {N : Nat → Prop} {w0 w w' : World} {v : Value} {bs : List UInt8}
theorem Out.alloc (h : Out N w0 w v bs) (o : Obj) : Out N w0 (w.alloc o) v bs := ⟨h.row.alloc o, h.keep.alloc o, h.new⟩
theorem Out.drew (h : Out N w0 w v bs) : Out N w0 w.drew v bs := ⟨h.row, h.keep.drew, h.new⟩
theorem Out.go (h : Out N w0 w v bs) (k : Keep (fun _ => False) w w') : Out N w0 w' v bs :=
  ⟨h.row.keep k (fun _ _ h => h), h.keep.trans k (fun _ h => h.elim), h.new⟩
/-- The same buffer, from now on. -/
theorem Out.here (h : Out N w0 w v bs) : Out (own v) w w v bs := ⟨h.row, Keep.refl _ w, fun _ e => .inl e⟩
theorem Out.lt (h : Out N w0 w v bs) {b : Nat} (e : own v b) : b < w.heap.size := h.row.lt e
theorem Out.trans {w1 w2 : World} {v2 : Value} {b2 : List UInt8} (h : Out N w0 w v bs) (k : Keep (fun _ => False) w w1) (h2 : Out (own v) w1 w2 v2 b2) : Out N w0 w2 v2 b2 :=
  ⟨h2.row, (h.keep.trans k (fun _ h => h.elim)).trans h2.keep (fun b e => h.new b e), fun b e => by
    rcases h2.new b e with e1 | e1
    · exact h.new b e1
    · have := h.keep.size; have := k.size; right; omega⟩
theorem Out.slice (h : Out N w0 w v bs) : ∃ a n cap, v = .slice a n cap := by
  obtain ⟨a, cap, rfl, _, _⟩ := h.row.slice
  exact ⟨a, _, cap, rfl⟩
end

theorem Try.infoB' : ∃ i : TypeInfo, Try.prog.info? 5 = some i ∧ i.zero = some (.int .u8 0) ∧ i.size = 1 ∧ i.bytes = 1 := by
  obtain ⟨i, hi, h⟩ := Option.map_eq_some_iff.1 Try.infoB
  simp only [Prod.mk.injEq] at h
  exact ⟨i, hi, h.1, h.2.1, h.2.2⟩

section
variable {ops : Array Oper} {rest : List Oper} {o : Oper} {a : Act} {N : Nat → Prop} {w0 w : World} {Q : Exit → Act → World → Prop} {v : Value} {bs ns : List UInt8}

/-- append behind a buffer. -/
theorem wpList_append_out (hgd : o.guard = none) (s x : Operand) {tx : TypeId} (ho : o.op = .call { callee := .builtin .append, args := #[s, x], argTypes := #[33, tx] })
    (hv : a.eval s = v) (h : Out N w0 w v bs) {vx : Value} (hx : a.eval x = vx) {m : Nat} (hs : Src Try.prog 1 tx vx m (bcells ns) w) (hl : bs.length + ns.length ≤ lim)
    (hK : ∀ v' w', Out N w0 w' v' (bs ++ ns) → wpList Try.prog ops Q rest (a.put o.dst v') w') : wpList Try.prog ops Q (o :: rest) a w := by
  obtain ⟨i, hi, h1, h2, h3⟩ := Try.infoB'
  have hm : ns.length = m := by have := hs.newsLen; rw [bcells_length] at this; omega
  unfold lim at hl
  refine wpList_append_row _ hgd s x ho Try.underlying33 hi h1 h2 h3 rfl hv h.row hx hs (by unfold maxLen; omega) (by omega) (fun v' w' r k n _ => hK v' w' ⟨?_, ?_, ?_⟩)
  · rw [List.length_append, hm]; simpa [bcells] using r
  · exact h.keep.trans k (fun b e => h.new b e)
  · intro b e
    rcases n b e with e | e
    · exact h.new b e
    · have := h.keep.size; right; omega
end

/-- What a put answers. -/
def Puts (N : Nat → Prop) (w0 : World) (bs : List UInt8) (e : Ending) (w' : World) : Prop := ∃ a n cap, e = .returned (.slice a n cap) ∧ Out N w0 w' (.slice a n cap) bs

theorem Out.puts {N : Nat → Prop} {w0 w : World} {v : Value} {bs : List UInt8} (h : Out N w0 w v bs) : Puts N w0 bs (.returned v) w := by
  obtain ⟨a, n, cap, rfl⟩ := h.slice
  exact ⟨a, n, cap, rfl, h⟩

theorem bcells1 (c : UInt8) {n : Int} (h : n = (c.toNat : Int)) : (#[Value.int .u8 n] : Array Value).toList = bcells [c] := by subst h; rfl

theorem one_src {w : World} (c : UInt8) {n : Int} (h : n = (c.toNat : Int)) (b : Nat) (hb : b = w.heap.size) : Src Try.prog 1 33 (.slice (some ⟨b, 0, none⟩) 1 1) 1 (bcells [c]) (w.alloc (.cells #[.int .u8 n] 5)) := by
  have := Src.lit (P := Try.prog) (w := w) (size := 1) (t := 5) Try.underlying33 #[.int .u8 n] b 1 1 hb rfl (by simp [Value.oneCell'])
  rwa [bcells1 c h] at this

theorem putBool_any {N : Nat → Prop} {w0 w : World} {v : Value} {bs : List UInt8} (h : Out N w0 w v bs) (x : Bool) (hl : bs.length + 1 ≤ lim) :
    Calls Try.prog 71 #[v, .bool x] w (Puts N w0 (bs ++ cB.enc x)) := by
  have H := Lib.hid h
  obtain ⟨ab, nb, cap, rfl⟩ := h.slice
  cases x
  · go_enter Try.func71, Try.ntmps71
    go_wp2_with (refine wpList_append_out rfl (.tmp 9) (.tmp 10) rfl rfl (H.out.alloc _) rfl (one_src 0 rfl _ rfl) hl ?_; intro v' w' h'; obtain ⟨a2, n2, c2, rfl⟩ := h'.slice; have H2 := Lib.hid h'; clear h')
    go_ret
    exact H2.out.puts
  · go_enter Try.func71, Try.ntmps71
    go_wp2_with (refine wpList_append_out rfl (.tmp 6) (.tmp 7) rfl rfl (H.out.alloc _) rfl (one_src 1 rfl _ rfl) hl ?_; intro v' w' h'; obtain ⟨a2, n2, c2, rfl⟩ := h'.slice; have H2 := Lib.hid h'; clear h')
    go_ret
    exact H2.out.puts

theorem or128 : ∀ i : Fin 128, bits .or .u8 ((i.val : Nat) : Int) 128 = ((i.val + 128 : Nat) : Int) := by decide +kernel
theorem or128_nat (i : Nat) (h : i < 128) : bits .or .u8 (i : Int) 128 = ((UInt8.ofNat (i + 128)).toNat : Int) := by rw [ofNat_small (by omega)]; exact or128 ⟨i, h⟩

theorem be4 (m : Nat) : be 4 m = [UInt8.ofNat (m / 256 / 256 / 256 % 256), UInt8.ofNat (m / 256 / 256 % 256), UInt8.ofNat (m / 256 % 256), UInt8.ofNat (m % 256)] := rfl

theorem encL_big {n : Nat} (h : ¬ n < 128) : encL n = [UInt8.ofNat ((n + 2147483648) / 256 / 256 / 256 % 256), UInt8.ofNat ((n + 2147483648) / 256 / 256 % 256), UInt8.ofNat ((n + 2147483648) / 256 % 256), UInt8.ofNat ((n + 2147483648) % 256)] := by
  rw [encL, if_neg h, be4]
theorem len_bytes {n K : Nat} (hn : n < 2147483648) (hK : K = 2147483648) : (n + K) / 256 / 256 / 256 % 256 = n / 16777216 + 128 ∧ n / 16777216 < 128 ∧ (n + K) / 256 / 256 % 256 = n / 65536 % 256 ∧ (n + K) / 256 % 256 = n / 256 % 256 ∧ (n + K) % 256 = n % 256 := by
  omega
theorem byte_of {n c : Nat} (h : c < 256) (e : n = c) : (n : Int) = ((UInt8.ofNat c).toNat : Int) := by rw [ofNat_small h, e]

theorem bcells4 {n1 n2 n3 n4 : Int} (c1 c2 c3 c4 : UInt8) (h1 : n1 = (c1.toNat : Int)) (h2 : n2 = (c2.toNat : Int)) (h3 : n3 = (c3.toNat : Int)) (h4 : n4 = (c4.toNat : Int)) :
    (#[Value.int .u8 n1, .int .u8 n2, .int .u8 n3, .int .u8 n4] : Array Value).toList = bcells [c1, c2, c3, c4] := by subst h1 h2 h3 h4; rfl
theorem four_src {w : World} {n1 n2 n3 n4 : Int} (c1 c2 c3 c4 : UInt8) (h1 : n1 = (c1.toNat : Int)) (h2 : n2 = (c2.toNat : Int)) (h3 : n3 = (c3.toNat : Int)) (h4 : n4 = (c4.toNat : Int)) (b : Nat) (hb : b = w.heap.size) :
    Src Try.prog 1 33 (.slice (some ⟨b, 0, none⟩) 4 4) 4 (bcells [c1, c2, c3, c4]) (w.alloc (.cells #[.int .u8 n1, .int .u8 n2, .int .u8 n3, .int .u8 n4] 5)) := by
  have := Src.lit (P := Try.prog) (w := w) (size := 1) (t := 5) Try.underlying33 #[.int .u8 n1, .int .u8 n2, .int .u8 n3, .int .u8 n4] b 4 4 hb rfl (by simp [Value.oneCell'])
  rwa [bcells4 c1 c2 c3 c4 h1 h2 h3 h4] at this

theorem putLength_any {N : Nat → Prop} {w0 w : World} {v : Value} {bs : List UInt8} (h : Out N w0 w v bs) (n : Nat) (hn : n < 2147483648) (hl : bs.length + (encL n).length ≤ lim) :
    Calls Try.prog 70 #[v, .int .i64 (n : Int)] w (Puts N w0 (bs ++ encL n)) := by
  have H := Lib.hid h
  have HL := Lib.hid hl
  clear hl
  obtain ⟨ab, nb, cap, rfl⟩ := h.slice
  clear h
  by_cases hs : n < 128
  · have hsi : (n : Int) < 128 := by omega
    have hE : encL n = [UInt8.ofNat n] := by rw [encL, if_pos hs]
    rw [hE] at HL ⊢
    have HB := Lib.hid (byte_of (show n < 256 by omega) rfl)
    clear hE
    go_enter Try.func70, Try.ntmps70
    go_wp2_with (refine wpList_append_out rfl (.tmp 7) (.tmp 10) rfl rfl (H.out.alloc _) rfl (one_src (UInt8.ofNat n) HB.out _ rfl) HL.out ?_; intro v' w' h'; obtain ⟨a2, n2, c2, rfl⟩ := h'.slice; have H2 := Lib.hid h'; clear h')
    go_ret
    exact H2.out.puts
  · have hsi : 128 ≤ (n : Int) := by omega
    obtain ⟨m1, m2, m3, m4, m5⟩ := len_bytes hn rfl
    have hE := encL_big hs
    rw [m1, m3, m4, m5] at hE
    rw [hE] at HL ⊢
    obtain ⟨x, hx⟩ : ∃ x, x = n / 16777216 := ⟨_, rfl⟩
    rw [← hx] at HL m2 ⊢
    have e1 : (n : Int) / 16777216 = (x : Int) := by omega
    have e2 := or128_nat x m2
    have e3 : (n : Int) / 65536 % 256 = ((UInt8.ofNat (n / 65536 % 256)).toNat : Int) := by rw [ofNat_small (by omega)]; omega
    have e4 : (n : Int) / 256 % 256 = ((UInt8.ofNat (n / 256 % 256)).toNat : Int) := by rw [ofNat_small (by omega)]; omega
    have e5 : (n : Int) % 256 = ((UInt8.ofNat (n % 256)).toNat : Int) := by rw [ofNat_small (by omega)]; omega
    have hx1 : (x : Int) < 128 := by omega
    have hni : (n : Int) ≤ 2147483647 := by omega
    generalize UInt8.ofNat (x + 128) = c1 at *
    generalize UInt8.ofNat (n / 65536 % 256) = c2 at *
    generalize UInt8.ofNat (n / 256 % 256) = c3 at *
    generalize UInt8.ofNat (n % 256) = c4 at *
    clear hE m1 m2 m3 m4 m5 hs hn hx
    go_enter Try.func70, Try.ntmps70
    go_wp2_with (refine wpList_append_out rfl (.tmp 12) (.tmp 25) rfl rfl (H.out.alloc _) rfl (four_src c1 c2 c3 c4 rfl rfl rfl rfl _ rfl) HL.out ?_; intro v' w' h'; obtain ⟨a2, n2, c2, rfl⟩ := h'.slice; have H2 := Lib.hid h'; clear h')
    go_ret
    exact H2.out.puts

end Go.Proofs.Ytmibepjfbapbdaa.Cd
