/- codec: numbers without signs, how many bytes they fill. -/
import Derived.Test.YtpefkellcigpkaaCdM
import Derived.Test.YtpefkellcigpkaaArgs
import Derived.Lib.Tables
import Derived.Lib.BitFns
import Derived.Lib.Zigzag
import Derived.Laws.BitsAllLaws
namespace Go.Proofs.Ytpefkellcigpkaa.Cd
open Go.RowKit Go.Proofs.Ytpefkellcigpkaa
set_option maxRecDepth 100000

theorem xor64_ones (a : Nat) (ha : a < 18446744073709551616) : bits .xor .u64 (a : Int) 18446744073709551615 = ((18446744073709551615 - a : Nat) : Int) := by
  have h := bits_xor_u64_nat a (2 ^ 64 - 1) ha (by decide)
  rw [Nat.xor_comm, Lib.xor_ones64 a ha] at h
  exact h
theorem xor64_zero (a : Nat) (ha : a < 18446744073709551616) : bits .xor .u64 (a : Int) 0 = (a : Int) := by
  have h := bits_xor_u64_nat a 0 ha (by decide)
  rw [Nat.xor_zero] at h
  exact h
theorem xori_zero (a : Nat) (ha : a < 9223372036854775808) : bits .xor .i64 (a : Int) 0 = (a : Int) := by
  show IntKind.i64.wrap ((BitVec.ofInt 64 (a : Int) ^^^ BitVec.ofInt 64 0).toNat : Int) = _
  have h2 : (BitVec.ofInt 64 (a : Int)).toNat = a := by rw [BitVec.ofInt_natCast, BitVec.toNat_ofNat]; exact Nat.mod_eq_of_lt (by omega)
  rw [BitVec.toNat_xor, h2, show (BitVec.ofInt 64 0).toNat = 0 from rfl, Nat.xor_zero, IntKind.wrap_i64]
  omega
theorem xori_ones (a : Nat) (ha : a < 9223372036854775808) : bits .xor .i64 (a : Int) (-1) = -(a : Int) - 1 := by
  show IntKind.i64.wrap ((BitVec.ofInt 64 (a : Int) ^^^ BitVec.ofInt 64 (-1)).toNat : Int) = _
  have h1 : (BitVec.ofInt 64 (-1)).toNat = 2 ^ 64 - 1 := by decide
  have h2 : (BitVec.ofInt 64 (a : Int)).toNat = a := by rw [BitVec.ofInt_natCast, BitVec.toNat_ofNat]; exact Nat.mod_eq_of_lt (by omega)
  rw [BitVec.toNat_xor, h1, h2, Nat.xor_comm, Lib.xor_ones64 a (by omega), IntKind.wrap_i64]
  omega

theorem twist_pos {m : Nat} (h1 : (m : Int) ≤ 9223372036854775807) : bits .xor .u64 ((m : Int) * 2) ((m : Int) / 9223372036854775808) = (twist (m : Int) : Int) := by
  have e1 : (m : Int) / 9223372036854775808 = 0 := by omega
  have e2 : ((m : Int) * 2) = ((m * 2 : Nat) : Int) := by omega
  have e3 : twist (m : Int) = m * 2 := by unfold twist; rw [if_pos (by omega)]; omega
  rw [e1, e2, e3]; exact xor64_zero (m * 2) (by omega)
theorem twist_neg {n : Int} (h1 : -9223372036854775808 ≤ n) (h : n < 0) : bits .xor .u64 (IntKind.u64.wrap (IntKind.u64.wrap n * 2)) (IntKind.u64.wrap (n / 9223372036854775808)) = (twist n : Int) := by
  obtain ⟨m, hm⟩ : ∃ m : Nat, 2 * n + 18446744073709551616 = m := ⟨(2 * n + 18446744073709551616).toNat, by omega⟩
  have e1 : IntKind.u64.wrap (n / 9223372036854775808) = 18446744073709551615 := by rw [IntKind.wrap_u64]; omega
  have e2 : IntKind.u64.wrap (IntKind.u64.wrap n * 2) = (m : Int) := by rw [IntKind.wrap_u64, IntKind.wrap_u64]; omega
  have e3 : twist n = 18446744073709551615 - m := by unfold twist; rw [if_neg (by omega)]; omega
  rw [e1, e2, e3]; exact xor64_ones m (by omega)

theorem twisted_any {n : Int} (hn : okN n) (w : World) : Calls Try.prog 68 #[.int .i64 n] w fun e w' => e = .returned (.int .u64 (twist n : Int)) ∧ w' = w := by
  obtain ⟨h1, h2⟩ := hn
  by_cases h : 0 ≤ n
  · obtain ⟨m, rfl⟩ : ∃ m : Nat, n = m := ⟨n.toNat, by omega⟩
    have e4 := Lib.hid (twist_pos h2)
    go_enter Try.func68, Try.ntmps68
    go_wp2
    go_ret
    rw [e4.out]; exact ⟨rfl, rfl⟩
  · have h3 : n < 0 := by omega
    have e4 := Lib.hid (twist_neg h1 h3)
    clear h
    go_enter Try.func68, Try.ntmps68
    go_wp2
    go_ret
    rw [e4.out]; exact ⟨rfl, rfl⟩

theorem bitLen_ge {x k : Nat} (h : 2 ^ k ≤ x) (hx : x < 2 ^ 64) : k + 1 ≤ Lib.bitLen x := by
  rw [Lib.bitLen_shift k x h hx]
  have h1 : 1 ≤ x / 2 ^ k := (Nat.one_le_div_iff (Nat.two_pow_pos k)).2 h
  have h2 : x / 2 ^ k < 2 ^ 64 := Nat.lt_of_le_of_lt (Nat.div_le_self _ _) hx
  have := Lib.bitLen_half (x / 2 ^ k) (by omega) h2
  omega
theorem size_len (u : Nat) (h : u < 18446744073709551616) : (Lib.bitLen u + 7) / 8 = sizeB u := by
  have up := fun k hk => Lib.bitLen_le u k hk
  have lo := fun k hk => bitLen_ge (x := u) (k := k) hk h
  unfold sizeB
  split
  · next e => subst e; rfl
  · split
    · next e => have := up 8 (by omega) e; have := lo 0 (by simp; omega); omega
    · split
      · next e => have := up 16 (by omega) e; have := lo 8 (by simp; omega); omega
      · split
        · next e => have := up 24 (by omega) e; have := lo 16 (by simp; omega); omega
        · split
          · next e => have := up 32 (by omega) e; have := lo 24 (by simp; omega); omega
          · split
            · next e => have := up 40 (by omega) e; have := lo 32 (by simp; omega); omega
            · split
              · next e => have := up 48 (by omega) e; have := lo 40 (by simp; omega); omega
              · split
                · next e => have := up 56 (by omega) e; have := lo 48 (by simp; omega); omega
                · have := up 64 (by omega) h; have := lo 56 (by simp; omega); omega

theorem tab256 : Lib.len8tab.size = 256 := Lib.len8tab_size
theorem l8 (y : Int) (h : y.toNat < Lib.len8tab.size) (h0 : 0 ≤ y) (h1 : y ≤ 255) : ((Lib.len8tab[y.toNat]'h).toNat : Int) = (Lib.bitLen y.toNat : Int) ∧ Lib.bitLen y.toNat ≤ 8 := by
  refine ⟨?_, Lib.bitLen_le8' y h0 h1⟩
  have e := Lib.len8_of y h0 h1
  unfold Lib.len8 at e
  rw [getElem?_pos Lib.len8tab y.toNat h] at e
  exact e
theorem way {x y : Int} (k : Nat) (hk : k ≤ 56) (h : y.toNat < Lib.len8tab.size) (h0 : 0 ≤ y) (h1 : y ≤ 255) (hx : Lib.bitLen x.toNat = k + Lib.bitLen y.toNat) :
    wrap64 ((k : Int) + wrap64 ((Lib.len8tab[y.toNat]'h).toNat : Int)) = (Lib.bitLen x.toNat : Int) := by
  obtain ⟨e, l⟩ := l8 y h h0 h1
  rw [e, hx]; unfold wrap64; omega
theorem shifted {x y : Int} (k : Nat) (hy : y.toNat = x.toNat / 2 ^ k) (hk : 2 ^ k ≤ x.toNat) (hx : x.toNat < 2 ^ 64) : Lib.bitLen x.toNat = k + Lib.bitLen y.toNat := by
  rw [hy]; exact Lib.bitLen_shift k x.toNat hk hx

theorem q56 {x : Int} (h0 : 0 ≤ x) (h1 : x ≤ 18446744073709551615) (a : 256 ≤ x / 4294967296 / 65536) : 0 ≤ x / 4294967296 / 65536 / 256 ∧ x / 4294967296 / 65536 / 256 ≤ 255 ∧ (x / 4294967296 / 65536 / 256).toNat = x.toNat / 2 ^ 56 ∧ 2 ^ 56 ≤ x.toNat := by
  simp only [Nat.reducePow]; omega
theorem q48 {x : Int} (h0 : 0 ≤ x) (a : 65536 ≤ x / 4294967296) (b : x / 4294967296 / 65536 < 256) : 0 ≤ x / 4294967296 / 65536 ∧ x / 4294967296 / 65536 ≤ 255 ∧ (x / 4294967296 / 65536).toNat = x.toNat / 2 ^ 48 ∧ 2 ^ 48 ≤ x.toNat := by
  simp only [Nat.reducePow]; omega
theorem q40 {x : Int} (h0 : 0 ≤ x) (a : x / 4294967296 < 65536) (b : 256 ≤ x / 4294967296) : 0 ≤ x / 4294967296 / 256 ∧ x / 4294967296 / 256 ≤ 255 ∧ (x / 4294967296 / 256).toNat = x.toNat / 2 ^ 40 ∧ 2 ^ 40 ≤ x.toNat := by
  simp only [Nat.reducePow]; omega
theorem q32 {x : Int} (_ : 0 ≤ x) (a : 4294967296 ≤ x) (b : x / 4294967296 < 256) : 0 ≤ x / 4294967296 ∧ x / 4294967296 ≤ 255 ∧ (x / 4294967296).toNat = x.toNat / 2 ^ 32 ∧ 2 ^ 32 ≤ x.toNat := by
  simp only [Nat.reducePow]; omega
theorem q24 {x : Int} (h0 : 0 ≤ x) (a : x < 4294967296) (b : 256 ≤ x / 65536) : 0 ≤ x / 65536 / 256 ∧ x / 65536 / 256 ≤ 255 ∧ (x / 65536 / 256).toNat = x.toNat / 2 ^ 24 ∧ 2 ^ 24 ≤ x.toNat := by
  simp only [Nat.reducePow]; omega
theorem q16 {x : Int} (_ : 0 ≤ x) (a : 65536 ≤ x) (b : x / 65536 < 256) : 0 ≤ x / 65536 ∧ x / 65536 ≤ 255 ∧ (x / 65536).toNat = x.toNat / 2 ^ 16 ∧ 2 ^ 16 ≤ x.toNat := by
  simp only [Nat.reducePow]; omega
theorem q8 {x : Int} (h0 : 0 ≤ x) (a : x < 65536) (b : 256 ≤ x) : 0 ≤ x / 256 ∧ x / 256 ≤ 255 ∧ (x / 256).toNat = x.toNat / 2 ^ 8 ∧ 2 ^ 8 ≤ x.toNat := by
  simp only [Nat.reducePow]; omega

set_option maxHeartbeats 32000000 in
set_option maxRecDepth 1000000 in
theorem len64_any (x : Int) (h0 : 0 ≤ x) (h1 : x ≤ 18446744073709551615) (w : World) : Calls Try.prog 84 #[.int .u64 x] w fun e w' => e = .returned (.int .i64 (Lib.bitLen x.toNat : Int)) ∧ w' = w := by
  have hx : x.toNat < 2 ^ 64 := by simp only [Nat.reducePow]; omega
  have HX := Lib.hid hx
  clear hx
  go_enter Try.func84, Try.ntmps84
  go_wp2
  all_goals first
    | (go_ret
       refine ⟨congrArg Ending.returned (congrArg (Value.int IntKind.i64) ?_), rfl⟩
       first
         | (have q := q56 h0 h1 (by assumption); exact way 56 (by decide) _ q.1 q.2.1 (shifted 56 q.2.2.1 q.2.2.2 HX.out))
         | (have q := q48 h0 (by assumption) (by assumption); exact way 48 (by decide) _ q.1 q.2.1 (shifted 48 q.2.2.1 q.2.2.2 HX.out))
         | (have q := q40 h0 (by assumption) (by assumption); exact way 40 (by decide) _ q.1 q.2.1 (shifted 40 q.2.2.1 q.2.2.2 HX.out))
         | (have q := q32 h0 (by assumption) (by assumption); exact way 32 (by decide) _ q.1 q.2.1 (shifted 32 q.2.2.1 q.2.2.2 HX.out))
         | (have q := q24 h0 (by assumption) (by assumption); exact way 24 (by decide) _ q.1 q.2.1 (shifted 24 q.2.2.1 q.2.2.2 HX.out))
         | (have q := q16 h0 (by assumption) (by assumption); exact way 16 (by decide) _ q.1 q.2.1 (shifted 16 q.2.2.1 q.2.2.2 HX.out))
         | (have q := q8 h0 (by assumption) (by assumption); exact way 8 (by decide) _ q.1 q.2.1 (shifted 8 q.2.2.1 q.2.2.2 HX.out))
         | (rw [(l8 x _ h0 (by omega)).1]; have := (l8 x (by rw [tab256]; omega) h0 (by omega)).2; unfold wrap64; omega))
    | (exfalso
       rename_i hz
       refine hz ?_
       rw [tab256]
       clear hz HX
       omega)

/-- How many bytes a number fills, as the program has it. -/
theorem size_any (u : Nat) (h : u < 18446744073709551616) (w : World) : Calls Try.prog 69 #[.int .u64 (u : Int)] w fun e w' => e = .returned (.int .i64 (sizeB u : Int)) ∧ w' = w := by
  have hs := size_len u h
  have hb := Lib.bitLen_le u 64 (by omega) h
  have HC := Lib.hid (len64_any (u : Int) (by omega) (by omega))
  rw [Int.toNat_natCast] at HC
  generalize Lib.bitLen u = l at *
  have he : ((l : Int) + 7) / 8 = (sizeB u : Int) := by omega
  clear hs
  have HE := Lib.hid he
  clear he h
  go_enter Try.func69, Try.ntmps69
  go_wp2_with fail
  refine (HC.out _).mono ?_
  rintro e w2 ⟨rfl, rfl⟩
  go_wp2
  go_ret
  rw [HE.out]; exact ⟨rfl, rfl⟩

end Go.Proofs.Ytpefkellcigpkaa.Cd
/- codec: a buffer that grows; numbers, lengths, texts and bools behind it. -/
namespace Go.Proofs.Ytpefkellcigpkaa.Cd
open Go.RowKit Go.Proofs.Ytpefkellcigpkaa
set_option maxRecDepth 100000

/-- How long a buffer may become. -/
def lim : Nat := 1099511627776

/-- A buffer that holds the bytes bs: no block of w0 but those of N has turned, and the buffer lies in one of N, or in one made since. -/
structure Out (N : Nat → Prop) (w0 w : World) (v : Value) (bs : List UInt8) : Prop where
  row : Row w 5 1 v bs.length (bcells bs)
  keep : Keep N w0 w
  new : ∀ b, v.ownBlock = some b → N b ∨ w0.heap.size ≤ b

/-- A slice's own block. -/
def own (v : Value) (b : Nat) : Prop := v.ownBlock = some b

section
variable {N : Nat → Prop} {w0 w w' : World} {v : Value} {bs : List UInt8}
theorem Out.alloc (h : Out N w0 w v bs) (o : Obj) : Out N w0 (w.alloc o) v bs := ⟨h.row.alloc o, h.keep.alloc o, h.new⟩
theorem Out.drew (h : Out N w0 w v bs) : Out N w0 w.drew v bs := ⟨h.row, h.keep.drew, h.new⟩
theorem Out.go (h : Out N w0 w v bs) (k : Keep (fun _ => False) w w') : Out N w0 w' v bs :=
  ⟨h.row.keep k (fun _ _ h => h), h.keep.trans k (fun _ h => h.elim), h.new⟩
/-- The same buffer, from now on. -/
theorem Out.here (h : Out N w0 w v bs) : Out (own v) w w v bs := ⟨h.row, Keep.refl _ w, fun _ e => .inl e⟩
theorem Out.lt (h : Out N w0 w v bs) {b : Nat} (e : own v b) : b < w.heap.size := h.row.lt e
theorem Out.trans {w1 w2 : World} {v2 : Value} {b2 : List UInt8} (h : Out N w0 w v bs) (k : Keep (fun _ => False) w w1) (h2 : Out (own v) w1 w2 v2 b2) : Out N w0 w2 v2 b2 :=
  ⟨h2.row, (h.keep.trans k (fun _ h => h.elim)).trans h2.keep (fun b e => h.new b e), fun b e => by
    rcases h2.new b e with e1 | e1
    · exact h.new b e1
    · have := h.keep.size; have := k.size; right; omega⟩
theorem Out.slice (h : Out N w0 w v bs) : ∃ a n cap, v = .slice a n cap := by
  obtain ⟨a, cap, rfl, _, _⟩ := h.row.slice
  exact ⟨a, _, cap, rfl⟩
end

theorem Try.infoB' : ∃ i : TypeInfo, Try.prog.info? 5 = some i ∧ i.zero = some (.int .u8 0) ∧ i.size = 1 ∧ i.bytes = 1 := by
  obtain ⟨i, hi, h⟩ := Option.map_eq_some_iff.1 Try.infoB
  simp only [Prod.mk.injEq] at h
  exact ⟨i, hi, h.1, h.2.1, h.2.2⟩

section
variable {ops : Array Oper} {rest : List Oper} {o : Oper} {a : Act} {N : Nat → Prop} {w0 w : World} {Q : Exit → Act → World → Prop} {v : Value} {bs ns : List UInt8}

/-- append behind a buffer. -/
theorem wpList_append_out (hgd : o.guard = none) (s x : Operand) {tx : TypeId} (ho : o.op = .call { callee := .builtin .append, args := #[s, x], argTypes := #[33, tx] })
    (hv : a.eval s = v) (h : Out N w0 w v bs) {vx : Value} (hx : a.eval x = vx) {m : Nat} (hs : Src Try.prog 1 tx vx m (bcells ns) w) (hl : bs.length + ns.length ≤ lim)
    (hK : ∀ v' w', Out N w0 w' v' (bs ++ ns) → wpList Try.prog ops Q rest (a.put o.dst v') w') : wpList Try.prog ops Q (o :: rest) a w := by
  obtain ⟨i, hi, h1, h2, h3⟩ := Try.infoB'
  have hm : ns.length = m := by have := hs.newsLen; rw [bcells_length] at this; omega
  unfold lim at hl
  refine wpList_append_row _ hgd s x ho Try.underlying33 hi h1 h2 h3 rfl hv h.row hx hs (by unfold maxLen; omega) (by omega) (fun v' w' r k n _ => hK v' w' ⟨?_, ?_, ?_⟩)
  · rw [List.length_append, hm]; simpa [bcells] using r
  · exact h.keep.trans k (fun b e => h.new b e)
  · intro b e
    rcases n b e with e | e
    · exact h.new b e
    · have := h.keep.size; right; omega
end

/-- What a put answers. -/
def Puts (N : Nat → Prop) (w0 : World) (bs : List UInt8) (e : Ending) (w' : World) : Prop := ∃ a n cap, e = .returned (.slice a n cap) ∧ Out N w0 w' (.slice a n cap) bs

theorem Out.puts {N : Nat → Prop} {w0 w : World} {v : Value} {bs : List UInt8} (h : Out N w0 w v bs) : Puts N w0 bs (.returned v) w := by
  obtain ⟨a, n, cap, rfl⟩ := h.slice
  exact ⟨a, n, cap, rfl, h⟩

theorem bcells1 (c : UInt8) {n : Int} (h : n = (c.toNat : Int)) : (#[Value.int .u8 n] : Array Value).toList = bcells [c] := by subst h; rfl

theorem one_src {w : World} (c : UInt8) {n : Int} (h : n = (c.toNat : Int)) (b : Nat) (hb : b = w.heap.size) : Src Try.prog 1 33 (.slice (some ⟨b, 0, none⟩) 1 1) 1 (bcells [c]) (w.alloc (.cells #[.int .u8 n] 5)) := by
  have := Src.lit (P := Try.prog) (w := w) (size := 1) (t := 5) Try.underlying33 #[.int .u8 n] b 1 1 hb rfl (by simp [Value.oneCell'])
  rwa [bcells1 c h] at this

theorem putBool_any {N : Nat → Prop} {w0 w : World} {v : Value} {bs : List UInt8} (h : Out N w0 w v bs) (x : Bool) (hl : bs.length + 1 ≤ lim) :
    Calls Try.prog 71 #[v, .bool x] w (Puts N w0 (bs ++ cB.enc x)) := by
  have H := Lib.hid h
  obtain ⟨ab, nb, cap, rfl⟩ := h.slice
  cases x
  · go_enter Try.func71, Try.ntmps71
    go_wp2_with (refine wpList_append_out rfl (.tmp 9) (.tmp 10) rfl rfl (H.out.alloc _) rfl (one_src 0 rfl _ rfl) hl ?_; intro v' w' h'; obtain ⟨a2, n2, c2, rfl⟩ := h'.slice; have H2 := Lib.hid h'; clear h')
    go_ret
    exact H2.out.puts
  · go_enter Try.func71, Try.ntmps71
    go_wp2_with (refine wpList_append_out rfl (.tmp 6) (.tmp 7) rfl rfl (H.out.alloc _) rfl (one_src 1 rfl _ rfl) hl ?_; intro v' w' h'; obtain ⟨a2, n2, c2, rfl⟩ := h'.slice; have H2 := Lib.hid h'; clear h')
    go_ret
    exact H2.out.puts

theorem or128 : ∀ i : Fin 128, bits .or .u8 ((i.val : Nat) : Int) 128 = ((i.val + 128 : Nat) : Int) := by decide +kernel
theorem or128_nat (i : Nat) (h : i < 128) : bits .or .u8 (i : Int) 128 = ((UInt8.ofNat (i + 128)).toNat : Int) := by rw [ofNat_small (by omega)]; exact or128 ⟨i, h⟩

theorem be4 (m : Nat) : be 4 m = [UInt8.ofNat (m / 256 / 256 / 256 % 256), UInt8.ofNat (m / 256 / 256 % 256), UInt8.ofNat (m / 256 % 256), UInt8.ofNat (m % 256)] := rfl

theorem encL_big {n : Nat} (h : ¬ n < 128) : encL n = [UInt8.ofNat ((n + 2147483648) / 256 / 256 / 256 % 256), UInt8.ofNat ((n + 2147483648) / 256 / 256 % 256), UInt8.ofNat ((n + 2147483648) / 256 % 256), UInt8.ofNat ((n + 2147483648) % 256)] := by
  rw [encL, if_neg h, be4]
theorem len_bytes {n K : Nat} (hn : n < 2147483648) (hK : K = 2147483648) : (n + K) / 256 / 256 / 256 % 256 = n / 16777216 + 128 ∧ n / 16777216 < 128 ∧ (n + K) / 256 / 256 % 256 = n / 65536 % 256 ∧ (n + K) / 256 % 256 = n / 256 % 256 ∧ (n + K) % 256 = n % 256 := by
  omega
theorem byte_of {n c : Nat} (h : c < 256) (e : n = c) : (n : Int) = ((UInt8.ofNat c).toNat : Int) := by rw [ofNat_small h, e]

theorem bcells4 {n1 n2 n3 n4 : Int} (c1 c2 c3 c4 : UInt8) (h1 : n1 = (c1.toNat : Int)) (h2 : n2 = (c2.toNat : Int)) (h3 : n3 = (c3.toNat : Int)) (h4 : n4 = (c4.toNat : Int)) :
    (#[Value.int .u8 n1, .int .u8 n2, .int .u8 n3, .int .u8 n4] : Array Value).toList = bcells [c1, c2, c3, c4] := by subst h1 h2 h3 h4; rfl
theorem four_src {w : World} {n1 n2 n3 n4 : Int} (c1 c2 c3 c4 : UInt8) (h1 : n1 = (c1.toNat : Int)) (h2 : n2 = (c2.toNat : Int)) (h3 : n3 = (c3.toNat : Int)) (h4 : n4 = (c4.toNat : Int)) (b : Nat) (hb : b = w.heap.size) :
    Src Try.prog 1 33 (.slice (some ⟨b, 0, none⟩) 4 4) 4 (bcells [c1, c2, c3, c4]) (w.alloc (.cells #[.int .u8 n1, .int .u8 n2, .int .u8 n3, .int .u8 n4] 5)) := by
  have := Src.lit (P := Try.prog) (w := w) (size := 1) (t := 5) Try.underlying33 #[.int .u8 n1, .int .u8 n2, .int .u8 n3, .int .u8 n4] b 4 4 hb rfl (by simp [Value.oneCell'])
  rwa [bcells4 c1 c2 c3 c4 h1 h2 h3 h4] at this

theorem putLength_any {N : Nat → Prop} {w0 w : World} {v : Value} {bs : List UInt8} (h : Out N w0 w v bs) (n : Nat) (hn : n < 2147483648) (hl : bs.length + (encL n).length ≤ lim) :
    Calls Try.prog 70 #[v, .int .i64 (n : Int)] w (Puts N w0 (bs ++ encL n)) := by
  have H := Lib.hid h
  have HL := Lib.hid hl
  clear hl
  obtain ⟨ab, nb, cap, rfl⟩ := h.slice
  clear h
  by_cases hs : n < 128
  · have hsi : (n : Int) < 128 := by omega
    have hE : encL n = [UInt8.ofNat n] := by rw [encL, if_pos hs]
    rw [hE] at HL ⊢
    have HB := Lib.hid (byte_of (show n < 256 by omega) rfl)
    clear hE
    go_enter Try.func70, Try.ntmps70
    go_wp2_with (refine wpList_append_out rfl (.tmp 7) (.tmp 10) rfl rfl (H.out.alloc _) rfl (one_src (UInt8.ofNat n) HB.out _ rfl) HL.out ?_; intro v' w' h'; obtain ⟨a2, n2, c2, rfl⟩ := h'.slice; have H2 := Lib.hid h'; clear h')
    go_ret
    exact H2.out.puts
  · have hsi : 128 ≤ (n : Int) := by omega
    obtain ⟨m1, m2, m3, m4, m5⟩ := len_bytes hn rfl
    have hE := encL_big hs
    rw [m1, m3, m4, m5] at hE
    rw [hE] at HL ⊢
    obtain ⟨x, hx⟩ : ∃ x, x = n / 16777216 := ⟨_, rfl⟩
    rw [← hx] at HL m2 ⊢
    have e1 : (n : Int) / 16777216 = (x : Int) := by omega
    have e2 := or128_nat x m2
    have e3 : (n : Int) / 65536 % 256 = ((UInt8.ofNat (n / 65536 % 256)).toNat : Int) := by rw [ofNat_small (by omega)]; omega
    have e4 : (n : Int) / 256 % 256 = ((UInt8.ofNat (n / 256 % 256)).toNat : Int) := by rw [ofNat_small (by omega)]; omega
    have e5 : (n : Int) % 256 = ((UInt8.ofNat (n % 256)).toNat : Int) := by rw [ofNat_small (by omega)]; omega
    have hx1 : (x : Int) < 128 := by omega
    have hni : (n : Int) ≤ 2147483647 := by omega
    generalize UInt8.ofNat (x + 128) = c1 at *
    generalize UInt8.ofNat (n / 65536 % 256) = c2 at *
    generalize UInt8.ofNat (n / 256 % 256) = c3 at *
    generalize UInt8.ofNat (n % 256) = c4 at *
    clear hE m1 m2 m3 m4 m5 hs hn hx
    go_enter Try.func70, Try.ntmps70
    go_wp2_with (refine wpList_append_out rfl (.tmp 12) (.tmp 25) rfl rfl (H.out.alloc _) rfl (four_src c1 c2 c3 c4 rfl rfl rfl rfl _ rfl) HL.out ?_; intro v' w' h'; obtain ⟨a2, n2, c2, rfl⟩ := h'.slice; have H2 := Lib.hid h'; clear h')
    go_ret
    exact H2.out.puts

end Go.Proofs.Ytpefkellcigpkaa.Cd
