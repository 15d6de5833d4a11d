/- What strings.Cut gives at a line's end, and strings.Clone: whatever the world. addLine and Tokens: over any world, any text up to a bound of this text's own: the tokens that the plain functions tell. What lists of tokens hold in memory; the document's example; two lists compared. The machine of the document's own answers, step by step, is the plain functions' answer. No program here. -/
import Derived.Test.YtjlohjkhnjemaaaLeafs
import Derived.Test.YtjlohjkhnjemaaaShelf
import Derived.Shelf.RegionOpenPlain
import Derived.Deep.AppendLies
import Derived.Laws.OwnMore
import Derived.Deep.QuietTactic
import Derived.BigQuiet
namespace Go.Proofs.Ytjlohjkhnjemaaa
open Go.RowKit
open Doc

theorem byte_ten : ∀ l : List UInt8, (Lib.indexByte l 10 = -1 ∧ head l = l ∧ rest l = []) ∨ (∃ i : Nat, Lib.indexByte l 10 = i ∧ i < l.length ∧ head l = l.take i ∧ rest l = l.drop (i + 1))
  | [] => .inl ⟨rfl, rfl, rfl⟩
  | b :: l => by
    by_cases hb : b = 10
    · subst hb
      exact .inr ⟨0, rfl, by simp, by simp [head], by simp [rest]⟩
    · have hh : head (b :: l) = b :: head l := by simp [head, hb]
      have hr : rest (b :: l) = rest l := by simp [rest, hb]
      have hq : (b == 10) = false := by simpa using hb
      rcases byte_ten l with ⟨h1, h2, h3⟩ | ⟨i, h1, hi, h2, h3⟩
      · left
        refine ⟨?_, by rw [hh, h2], by rw [hr, h3]⟩
        unfold Lib.indexByte
        rw [hq, h1]; rfl
      · right
        refine ⟨i + 1, ?_, by simpa using hi, by rw [hh, h2]; rfl, by rw [hr, h3]; rfl⟩
        unfold Lib.indexByte
        rw [hq, h1]
        have : ((i : Int) == -1) = false := by rw [beq_eq_false_iff_ne]; omega
        simp [this]

theorem ext_take (s : ByteArray) (n : Nat) (l : List UInt8) (h : l = s.data.toList.take n) : (⟨l.toArray⟩ : ByteArray) = s.extract 0 n := by
  subst h; rw [Lib.extract_eq]; simp
theorem ext_drop (s : ByteArray) (n : Nat) (l : List UInt8) (h : l = s.data.toList.drop n) : (⟨l.toArray⟩ : ByteArray) = s.extract n s.size := by
  subst h; rw [Lib.extract_eq, List.take_of_length_le (by rw [List.length_drop, ← Lib.size_eq]; exact Nat.le_refl _)]

set_option maxHeartbeats 1000000 in
theorem scut_any (s : ByteArray) (w : World) (hs : s.size ≤ maxLen) :
    Calls Try.prog 179 #[.string s, .string ⟨#[10]⟩] w fun e w' => ∃ b, e = .returned (.tuple #[.string ⟨(head s.data.toList).toArray⟩, .string ⟨(rest s.data.toList).toArray⟩, .bool b]) ∧ ∃ n, w' = w.drewN n := by
  unfold maxLen at hs
  rcases byte_ten s.data.toList with ⟨h1, h2, h3⟩ | ⟨i, h1, hi, h2, h3⟩
  · rw [h2, h3]
    have HH := Lib.hid h1
    clear h1 h2 h3
    go_enter Try.func179, Try.ntmps179
    go_wp2_with (go_at_call 188; refine (Try.stringslite_Index_one s 10 _).mono ?_; rintro e w' ⟨rfl, rfl⟩; rw [HH.out])
    go_ret3
    exact ⟨_, by first | rfl | simp, 0, rfl⟩
  · have hi' : i < s.size := by rw [Lib.size_eq]; exact hi
    rw [ext_take s i _ h2, ext_drop s (i + 1) _ h3]
    have HH := Lib.hid h1
    clear h1 h2 h3
    have c1 : (0 : Int) ≤ ↑i := by omega
    have c2 : (↑i : Int) ≤ ↑s.size := by omega
    have c3 : (0 : Int) ≤ ↑i + 1 := by omega
    have c4 : (↑i + 1 : Int) ≤ ↑s.size := by omega
    have c5 : IntKind.i64.wrap (↑i + 1) = (↑i : Int) + 1 := by rw [IntKind.wrap_i64]; omega
    have mixed : Try.prog.follows Departure.mixedOrders = true := by kernel_rfl
    go_enter Try.func179, Try.ntmps179
    go_wp2_with (go_at_call 188; refine (Try.stringslite_Index_one s 10 _).mono ?_; rintro e w' ⟨rfl, rfl⟩; rw [HH.out])
    go_region_o
    go_wp2
    go_ret3
    exact ⟨_, rfl, 1, rfl⟩

theorem cut_any (s : ByteArray) (w : World) (hs : s.size ≤ maxLen) :
    Calls Try.prog 166 #[.string s, .string ⟨#[10]⟩] w fun e w' => ∃ b, e = .returned (.tuple #[.string ⟨(head s.data.toList).toArray⟩, .string ⟨(rest s.data.toList).toArray⟩, .bool b]) ∧ ∃ n, w' = w.drewN n := by
  go_enter Try.func166, Try.ntmps166
  go_wp2_with (go_at_call 179; refine (scut_any s _ hs).mono ?_; rintro e w' ⟨b, rfl, n, rfl⟩)
  go_ret3
  exact ⟨_, rfl, n, rfl⟩

theorem clone_any (s : ByteArray) (w : World) (hs : s.size ≤ 1000000) :
    Calls Try.prog 78 #[.string s] w fun e w' => e = .returned (.string s) ∧ Below w.heap.size w w' := by
  go_enter Try.func78, Try.ntmps78
  go_wp2_with (go_at_call 120; refine (Try.stringslite_Clone s _ (by omega)).mono ?_; rintro e w' ⟨rfl, hb⟩)
  go_ret
  exact ⟨rfl, hb⟩

end Go.Proofs.Ytjlohjkhnjemaaa

namespace Go.Proofs.Ytjlohjkhnjemaaa
open Go.RowKit
open Doc

/-- A token's cells. -/
def tcells (t : Tok) : List Value := [.int .i64 t.kind, .string ⟨t.text.toArray⟩, .int .i64 t.line, .int .i64 t.col]
def tall (l : List Tok) : List Value := l.flatMap tcells

theorem tall_nil : tall [] = [] := rfl
theorem tall_cons (t : Tok) (l : List Tok) : tall (t :: l) = tcells t ++ tall l := rfl
theorem tall_append (a b : List Tok) : tall (a ++ b) = tall a ++ tall b := by simp [tall]
theorem tall_length (l : List Tok) : (tall l).length = l.length * 4 := by
  induction l with
  | nil => rfl
  | cons t l ih => rw [tall_cons, List.length_append, ih]; simp [tcells]; omega

theorem own_below {w w' : World} {B e size n : Nat} {v : Value} {xs : List Value} (h : w.ownsRow B e size v n xs) (hb : Below w.heap.size w w') : w'.ownsRow B e size v n xs := by
  refine ⟨h.1, ?_⟩
  rcases h.2 with h0 | ⟨g, cap, cur, hv, hB, hg, rest⟩
  · exact .inl h0
  · refine .inr ⟨g, cap, cur, hv, hB, ?_, rest⟩
    have hlt : g < w.heap.size := by
      rcases Nat.lt_or_ge g w.heap.size with h | h
      · exact h
      · rw [Array.getElem?_eq_none h] at hg; cases hg
    rw [hb.block g hlt, hg]

/-- v is the list l of tokens, in memory that stands at B or behind it. -/
def Owns (B : Nat) (w : World) (e : TypeId) (v : Value) (l : List Tok) : Prop := w.ownsRow B e 4 v l.length (tall l)

theorem Owns.nil (B : Nat) (w : World) (e : TypeId) : Owns B w e (.slice none 0 0) [] := World.ownsRow_nil w B e 4

theorem own_grows {B : Nat} {w w' : World} {e : TypeId} {v : Value} {n : Nat} {xs : List Value} {a : World} (h : w.ownsRow B e 4 v n xs) (hb : Below B a w) (hB : B ≤ w.heap.size) (hg : w.grownBy w' v.ownBlock) : Below B a w' :=
  hb.grown hg hB fun k hk => (h.lt k hk).1

theorem owns_snoc {B : Nat} {w : World} {e : TypeId} {v : Value} {a b : List Tok} {n : Nat} {cs : List Value} (t : Tok) (h : w.ownsRow B e 4 v n (tall (a ++ b) ++ cs)) (hn : n = (a ++ b).length + 1) (hc : cs = tcells t) : Owns B w e v (a ++ (b ++ [t])) := by
  unfold Owns
  subst hn hc
  rw [← List.append_assoc, tall_append (a ++ b), List.length_append]
  exact h

/-- How addLine ends: the tokens ahead, and the line's, and its end's; or nothing, and the column. -/
def LineEnd (B : Nat) (ts : List Tok) (s : ByteArray) (line : Nat) (e : Ending) (w' : World) : Prop :=
  if (lin s.data.toList line 1).2 = 0 then ∃ v', e = .returned (.tuple #[v', .int .i64 0]) ∧ Owns B w' 198 v' (ts ++ ((lin s.data.toList line 1).1 ++ [⟨5, [], line, s.size + 1⟩]))
  else e = .returned (.tuple #[.slice none 0 0, .int .i64 (lin s.data.toList line 1).2])

theorem kint0 : kint 0 = 0 := rfl
theorem kint9 : kint 9 = -1 := rfl

theorem ext_at (s : ByteArray) (k : Nat) : (s.extract k s.size).data.toList = s.data.toList.drop k := by
  rw [Lib.extract_eq]
  show List.take _ _ = _
  rw [List.take_of_length_le (by rw [List.length_drop, ← Lib.size_eq]; exact Nat.le_refl _)]
theorem ext_mid (s : ByteArray) (k n : Nat) : s.extract k (k + n) = ⟨((s.data.toList.drop k).take n).toArray⟩ := by
  rw [Lib.extract_eq, Nat.add_sub_cancel_left]

theorem lin_len : ∀ (n : Nat) (l : List UInt8) (line col : Nat), l.length ≤ n → (lin l line col).1.length ≤ l.length
  | _, [], _, _, _ => by simp [lin_nil]
  | 0, c :: l, _, _, h => by simp at h
  | n + 1, c :: l, line, col, h => by
    rw [lin_cons]
    split
    · simp
    · rename_i h0
      have hp := piece_pos c l h0
      have hd : ((c :: l).drop (piece c l).2).length + 1 ≤ (c :: l).length := by rw [List.length_drop]; simp only [List.length_cons]; omega
      have ih := lin_len n ((c :: l).drop (piece c l).2) line (col + (piece c l).2) (by simp only [List.length_cons] at h hd; omega)
      split
      · omega
      · simp only [List.length_cons] at hd ih ⊢; omega

theorem infoT : (Try.prog.info? 198).map (fun i => (i.zero, i.size, i.bytes)) = some (some (.agg #[.int .i64 0, .string ⟨#[]⟩, .int .i64 0, .int .i64 0]), 4, 40) := by kernel_rfl

theorem kint_else {k : Nat} (h : k ≠ 9) : kint k = k := by unfold kint; rw [if_neg h]

set_option maxRecDepth 100000 in
set_option maxHeartbeats 4000000 in
theorem addLine_any (s : ByteArray) (line B : Nat) (v : Value) (ts : List Tok) (w : World) (hown : Owns B w 198 v ts) (hB : B ≤ w.heap.size) (hs : s.size ≤ 1000000) (hn : ts.length ≤ 2000000) :
    Calls Try.prog 167 #[v, .string s, .int .i64 line] w fun e w' => Below B w w' ∧ LineEnd B ts s line e w' := by
  obtain ⟨i0, hi, hz0, hz1, hz2⟩ := info_parts infoT
  go_enter Try.func167, Try.ntmps167
  go_wp2
  go_loopw [0, 8] (fun vl at_ wr => ∃ (k : Nat) (ys : List Tok), k ≤ s.size ∧ at_ = .int .i64 k ∧ ys.length ≤ k ∧ Owns B wr 198 vl (ts ++ ys) ∧ Below B w wr ∧
      Hid ((lin s.data.toList line 1).1 = ys ++ (lin (s.data.toList.drop k) line (k + 1)).1 ∧ (lin s.data.toList line 1).2 = (lin (s.data.toList.drop k) line (k + 1)).2))
    (fun _ at_ _ => s.size - (intOf at_).toNat)
  case atStart => exact ⟨0, [], Nat.zero_le _, rfl, Nat.zero_le _, by rw [List.append_nil]; exact hown, Below.refl _ _, Lib.hid ⟨by simp, by simp⟩⟩
  case round =>
    obtain ⟨k, ys, hk, rfl, hyk, hown', hb, HR⟩ := hrel
    have hBr : B ≤ wr.heap.size := Nat.le_trans hB hb.size
    by_cases hlt : k < s.size
    · have hd := drop_at s k hlt
      generalize s[k] = c at hd
      generalize hl' : s.data.toList.drop (k + 1) = l' at hd
      have hx : (s.extract k s.size).data.toList = c :: l' := by rw [ext_at, hd]
      have hnx := next_any (s.extract k s.size) c l' hx
      have hps := piece_size c l'
      have hln : l'.length + 1 + k = s.size := by
        have h1 : (s.data.toList.drop k).length = l'.length + 1 := by rw [hd]; rfl
        rw [List.length_drop, ← Lib.size_eq] at h1; omega
      have hxs : (s.extract k s.size).size ≤ maxLen := by
        rw [Lib.size_eq, hx]; simp only [List.length_cons]; unfold maxLen; omega
      have hlin := lin_cons c l' line (k + 1)
      have hpp := piece_pos c l'
      have hdr : s.data.toList.drop (k + (piece c l').2) = (c :: l').drop (piece c l').2 := by rw [← hd, List.drop_drop]
      have hmid : s.extract k (k + (piece c l').2) = ⟨((c :: l').take (piece c l').2).toArray⟩ := by rw [ext_mid, hd]
      rw [hd] at HR
      generalize hP : piece c l' = p at *
      obtain ⟨kk, sz⟩ := p
      simp only at hlin hdr hmid hnx hps hpp
      have H1 := Lib.hid hlin
      have H2 := Lib.hid hdr
      have H3 := Lib.hid hmid
      have HN := Lib.hid hnx
      clear hlin hdr hmid hnx hd hl' hx hP
      by_cases h0 : kk = 0
      · subst h0
        have hres : (lin s.data.toList line 1).2 = k + 1 := by rw [HR.out.2, H1.out]; simp
        go_wp2_with (go_at_call 180; refine (HN.out _ hxs).mono ?_; rintro e w' ⟨rfl, rfl⟩; rw [kint0])
        go_ret2
        refine ⟨hb, ?_⟩
        unfold LineEnd
        rw [if_neg (by omega), hres]
        rfl
      · have hsz0 := hpp h0
        by_cases h9 : kk = 9
        · subst h9
          have hres : lin (c :: l') line (k + 1) = lin (s.data.toList.drop (k + sz)) line (k + sz + 1) := by
            rw [H1.out, H2.out]; simp [show k + 1 + sz = k + sz + 1 by omega]
          have HR2 : Hid ((lin s.data.toList line 1).1 = ys ++ (lin (s.data.toList.drop (k + sz)) line (k + sz + 1)).1 ∧ (lin s.data.toList line 1).2 = (lin (s.data.toList.drop (k + sz)) line (k + sz + 1)).2) := Lib.hid (by rw [← hres]; exact HR.out)
          clear hres
          go_wp2_with (go_at_call 180; refine (HN.out _ hxs).mono ?_; rintro e w' ⟨rfl, rfl⟩; rw [kint9])
          go_roundw
          case rel => exact ⟨k + sz, ys, by omega, by go_num, by omega, hown', hb, HR2⟩
          case measure => simp [intOf]; omega
        · have hres : lin (c :: l') line (k + 1) = (⟨kk, (c :: l').take sz, line, k + 1⟩ :: (lin (s.data.toList.drop (k + sz)) line (k + sz + 1)).1, (lin (s.data.toList.drop (k + sz)) line (k + sz + 1)).2) := by
            rw [H1.out, if_neg h0, if_neg h9, H2.out, show k + 1 + sz = k + sz + 1 by omega]
          have HR2 : Hid ((lin s.data.toList line 1).1 = (ys ++ [⟨kk, (c :: l').take sz, line, k + 1⟩]) ++ (lin (s.data.toList.drop (k + sz)) line (k + sz + 1)).1 ∧ (lin s.data.toList line 1).2 = (lin (s.data.toList.drop (k + sz)) line (k + sz + 1)).2) :=
            Lib.hid ⟨by rw [HR.out.1, hres, List.append_assoc]; rfl, by rw [HR.out.2, hres]⟩
          have hki := kint_else h9
          have HO := Lib.hid hown'
          have b1 : (k : Int) ≤ (k : Int) + sz := by omega
          have b2 : (k : Int) + sz ≤ s.size := by omega
          have b3 : ((k : Int) + sz).toNat = k + sz := by omega
          have hxm : (s.extract k (k + sz)).size ≤ 1000000 := by rw [ByteArray.size_extract]; omega
          have hlen : (ts ++ ys).length = ts.length + ys.length := List.length_append
          clear hres hown' hown
          go_wp2_with (first
            | (go_at_call 180; refine (HN.out _ hxs).mono ?_; rintro e w' ⟨rfl, rfl⟩; rw [hki])
            | (go_at_call 78; refine (clone_any (s.extract k (k + sz)) _ hxm).mono ?_; rintro e w2 ⟨rfl, hb2⟩)
            | (at_builtin; refine wpList_append_own _ rfl (.tmp 36) (.tmp 43) 189 rfl B 198 i0 (.agg #[.int .i64 0, .string ⟨#[]⟩, .int .i64 0, .int .i64 0]) 4 40 Try.underlying189 hi hz0 hz1 hz2 rfl (by decide) _ (ts ++ ys).length (tall (ts ++ ys)) rfl ((own_below HO.out hb2).alloc _) ⟨w2.heap.size, 0, none⟩ 1 1 [.int .i64 kk, .string (s.extract k (k + sz)), .int .i64 line, .int .i64 (k + 1)] rfl rfl (World.news_of_block (cs := #[.int .i64 kk, .string (s.extract k (k + sz)), .int .i64 line, .int .i64 (k + 1)]) (t := 198) (fr := (0, 0)) (heap_alloc_new w2 _)) (by simp [Value.oneCell']) (by unfold maxLen; omega) (by omega) (by have := hb2.size; simp; omega) ?_; intro v3 w3 hown3 hgrow3 _))
          have hB2 : B ≤ w2.heap.size := Nat.le_trans hBr hb2.size
          have hown2 := (own_below HO.out hb2).alloc (.cells #[.int .i64 kk, .string (s.extract k (k + sz)), .int .i64 line, .int .i64 (k + 1)] 198)
          go_roundw
          case rel =>
            refine ⟨k + sz, ys ++ [⟨kk, (c :: l').take sz, line, k + 1⟩], by omega, by go_num, by simp; omega, ?_, ?_, HR2⟩
            · refine owns_snoc _ hown3 rfl ?_
              rw [H3.out]
              simp only [tcells]
              push_cast
              rfl
            · exact own_grows hown2 ((hb.trans (hb2.mono hBr)).alloc hB2 _) (by simp; omega) hgrow3
          case measure => simp [intOf]; omega
    · have hend : s.data.toList.drop k = [] := List.drop_of_length_le (by rw [← Lib.size_eq]; omega)
      have hres : (lin s.data.toList line 1).1 = ys ∧ (lin s.data.toList line 1).2 = 0 := by
        have h := HR.out
        rw [hend] at h
        exact ⟨by rw [h.1]; simp [lin_nil], h.2⟩
      have HO := Lib.hid hown'
      have HS := Lib.hid hres
      have hlen : (ts ++ ys).length = ts.length + ys.length := List.length_append
      clear hres hown' hown hend
      go_wp2_with (first
            | (at_builtin; refine wpList_append_own _ rfl (.tmp 48) (.tmp 54) 189 rfl B 198 i0 (.agg #[.int .i64 0, .string ⟨#[]⟩, .int .i64 0, .int .i64 0]) 4 40 Try.underlying189 hi hz0 hz1 hz2 rfl (by decide) _ (ts ++ ys).length (tall (ts ++ ys)) rfl (HO.out.alloc _) ⟨wr.heap.size, 0, none⟩ 1 1 [.int .i64 5, .string ⟨#[]⟩, .int .i64 line, .int .i64 (s.size + 1)] rfl rfl (World.news_of_block (cs := #[.int .i64 5, .string ⟨#[]⟩, .int .i64 line, .int .i64 (s.size + 1)]) (t := 198) (fr := (0, 0)) (heap_alloc_new wr _)) (by simp [Value.oneCell']) (by unfold maxLen; omega) (by omega) (by simp; omega) ?_; intro v3 w3 hown3 hgrow3 _))
      go_ret2
      refine ⟨?_, ?_⟩
      · exact own_grows (HO.out.alloc _) (hb.alloc hBr _) (by simp; omega) hgrow3
      · unfold LineEnd
        rw [if_pos HS.out.2]
        refine ⟨_, rfl, ?_⟩
        rw [HS.out.1]
        refine owns_snoc _ hown3 rfl ?_
        simp only [tcells]
        push_cast
        rfl

theorem addLine_ok (H : List UInt8) (line B : Nat) (x : Int) (hx : x = line) (v : Value) (ts : List Tok) (w : World) (hown : Owns B w 198 v ts) (hB : B ≤ w.heap.size) (hs : H.length ≤ 1000000) (hn : ts.length ≤ 2000000) (h0 : (lin H line 1).2 = 0) :
    Calls Try.prog 167 #[v, .string ⟨H.toArray⟩, .int .i64 x] w fun e w' => ∃ v', e = .returned (.tuple #[v', .int .i64 0]) ∧ Below B w w' ∧ Owns B w' 198 v' (ts ++ ((lin H line 1).1 ++ [⟨5, [], line, H.length + 1⟩])) := by
  subst hx
  refine (addLine_any ⟨H.toArray⟩ line B v ts w hown hB hs hn).mono fun e w' ⟨hb, he⟩ => ?_
  unfold LineEnd at he
  have he' : if (lin H line 1).2 = 0 then ∃ v', e = .returned (.tuple #[v', .int .i64 0]) ∧ Owns B w' 198 v' (ts ++ ((lin H line 1).1 ++ [⟨5, [], line, H.length + 1⟩]))
    else e = .returned (.tuple #[.slice none 0 0, .int .i64 (lin H line 1).2]) := he
  rw [if_pos h0] at he'
  obtain ⟨v', h1, h2⟩ := he'
  exact ⟨v', h1, hb, h2⟩
theorem addLine_bad (H : List UInt8) (line B : Nat) (x : Int) (hx : x = line) (v : Value) (ts : List Tok) (w : World) (hown : Owns B w 198 v ts) (hB : B ≤ w.heap.size) (hs : H.length ≤ 1000000) (hn : ts.length ≤ 2000000) (h0 : (lin H line 1).2 ≠ 0) :
    Calls Try.prog 167 #[v, .string ⟨H.toArray⟩, .int .i64 x] w fun e w' => e = .returned (.tuple #[.slice none 0 0, .int .i64 (lin H line 1).2]) ∧ Below B w w' := by
  subst hx
  refine (addLine_any ⟨H.toArray⟩ line B v ts w hown hB hs hn).mono fun e w' ⟨hb, he⟩ => ?_
  unfold LineEnd at he
  have he' : if (lin H line 1).2 = 0 then ∃ v', e = .returned (.tuple #[v', .int .i64 0]) ∧ Owns B w' 198 v' (ts ++ ((lin H line 1).1 ++ [⟨5, [], line, H.length + 1⟩]))
    else e = .returned (.tuple #[.slice none 0 0, .int .i64 (lin H line 1).2]) := he
  rw [if_neg h0] at he'
  exact ⟨he', hb⟩

theorem below_draws' {B : Nat} {a w : World} (h : Below B a w) (n : Nat) : Below B a (w.drewN n) := ⟨h.os, h.tape, h.output, h.size, h.block⟩

theorem line_len (c : UInt8) (l : List UInt8) : (head (c :: l)).length + 1 + 2 * (rest (c :: l)).length ≤ 2 * (l.length + 1) ∧ (rest (c :: l)).length ≤ l.length ∧ (head (c :: l)).length ≤ l.length + 1 := by
  rcases byte_ten (c :: l) with ⟨_, h2, h3⟩ | ⟨i, _, hi, h2, h3⟩
  · rw [h2, h3]; simp only [List.length_cons, List.length_nil]; omega
  · rw [h2, h3, List.length_take, List.length_drop]
    simp only [List.length_cons] at hi ⊢
    omega

theorem results_tmp4 {fn : Func} {t u v x : Tmp} (h : fn.results = #[.tmp t, .tmp u, .tmp v, .tmp x]) (tmps : Array Value) (P : Program) (w : World) :
    (results fn tmps).run P w = .ok (.tuple #[tmps.getD t undef, tmps.getD u undef, tmps.getD v undef, tmps.getD x undef]) w := by
  simp [results, h]

def strLen : Value → Nat
  | .string s => s.size
  | _ => 0

/-- How Tokens ends. -/
def TokEnd (B : Nat) (t : List UInt8) (e : Ending) (w' : World) : Prop :=
  if (txt t 1).2 = (0, 0) then ∃ v', e = .returned (.tuple #[v', .int .i64 0, .int .i64 0, .int .i64 0]) ∧ Owns B w' 198 v' (txt t 1).1
  else e = .returned (.tuple #[.slice none 0 0, .int .i64 (txt t 1).2.1, .int .i64 (txt t 1).2.2, .int .i64 2])

set_option maxRecDepth 100000 in
set_option maxHeartbeats 4000000 in
theorem tokens_any (s : ByteArray) (w : World) (hs : s.size ≤ 1000000) :
    Calls Try.prog 138 #[.string s] w fun e w' => Below w.heap.size w w' ∧ TokEnd w.heap.size s.data.toList e w' := by
  obtain ⟨B, hB⟩ : ∃ B, B = w.heap.size := ⟨_, rfl⟩
  rw [← hB]
  go_enter Try.func138, Try.ntmps138
  go_wp2
  go_loopw [2, 3, 4, 6] (fun vl ln cl rs wr => ∃ (ts : List Tok) (k : Nat) (r : List UInt8), ln = .int .i64 k ∧ cl = .int .i64 0 ∧ rs = .string ⟨r.toArray⟩ ∧ k + r.length ≤ s.size ∧ ts.length + 2 * r.length ≤ 2 * s.size ∧
      Owns B wr 198 vl ts ∧ Below B w wr ∧ Hid ((txt s.data.toList 1).1 = ts ++ (txt r (k + 1)).1 ∧ (txt s.data.toList 1).2 = (txt r (k + 1)).2))
    (fun _ _ _ rs _ => strLen rs)
  case atStart => exact ⟨[], 0, s.data.toList, rfl, rfl, by simp, by rw [← Lib.size_eq]; omega, by rw [← Lib.size_eq]; simp, Owns.nil _ _ _, Below.refl _ _, Lib.hid ⟨by simp, by simp⟩⟩
  case round =>
    obtain ⟨ts, k, r, rfl, rfl, rfl, hk, hts, hown', hb, HR⟩ := hrel
    rcases r with _ | ⟨c, l⟩
    · have hres : (txt s.data.toList 1).1 = ts ∧ (txt s.data.toList 1).2 = (0, 0) := by
        have h := HR.out
        exact ⟨by rw [h.1]; simp [txt_nil], h.2⟩
      have HO := Lib.hid hown'
      have HS := Lib.hid hres
      clear hres hown'
      go_wp2
      (try simp only [Exit.inBlock, Exit.then]); refine bodyPost_ret (results_tmp4 rfl _ _ _) rfl ?_
      refine ⟨hb, ?_⟩
      unfold TokEnd
      rw [if_pos HS.out.2, HS.out.1]
      exact ⟨_, rfl, HO.out⟩
    · have hll := line_len c l
      have hsz : (ByteArray.mk (c :: l).toArray).size = l.length + 1 := rfl
      have hT : (ByteArray.mk (c :: l).toArray).toList = c :: l := by rw [ByteArray.toList_eq]
      have htx := txt_cons c l (k + 1)
      simp only [List.length_cons] at hk hts
      have hBr : B ≤ wr.heap.size := by have := hb.size; omega
      have HC := cut_any ⟨(c :: l).toArray⟩
      have HC' : ∀ W : World, Calls Try.prog 166 #[.string ⟨(c :: l).toArray⟩, .string ⟨#[10]⟩] W fun e w' => ∃ b, e = .returned (.tuple #[.string ⟨(head (c :: l)).toArray⟩, .string ⟨(rest (c :: l)).toArray⟩, .bool b]) ∧ ∃ n, w' = W.drewN n := fun W => HC W (by unfold maxLen; omega)
      have HO := Lib.hid hown'
      clear HC hown'
      generalize hH : head (c :: l) = H at *
      generalize hR : rest (c :: l) = R at *
      have hHl : H.length ≤ 1000000 := by omega
      have htl : ts.length ≤ 2000000 := by omega
      by_cases h0 : (lin H (k + 1) 1).2 = 0
      · rw [if_pos h0] at htx
        have HR2 : Hid ((txt s.data.toList 1).1 = (ts ++ ((lin H (k + 1) 1).1 ++ [⟨5, [], k + 1, H.length + 1⟩])) ++ (txt R (k + 1 + 1)).1 ∧ (txt s.data.toList 1).2 = (txt R (k + 1 + 1)).2) :=
          Lib.hid ⟨by rw [HR.out.1, htx]; simp, by rw [HR.out.2, htx]⟩
        have hlin := lin_len _ H (k + 1) 1 (Nat.le_refl _)
        have HX := Lib.hid htx
        clear htx
        go_wp2_with (first
          | (go_at_call 166; refine (HC' _).mono ?_; rintro e w1 ⟨b, rfl, n1, rfl⟩)
          | (go_at_call 167; refine (addLine_ok H (k + 1) B _ (by push_cast; rfl) _ ts (wr.drewN n1) (show Owns B (wr.drewN n1) 198 _ ts from HO.out) hBr hHl htl h0).mono ?_; rintro e w2 ⟨v2, rfl, hb2, hown2⟩))
        go_roundw
        case rel => exact ⟨_, k + 1, R, by go_num, rfl, rfl, by omega, by simp only [List.length_append, List.length_cons, List.length_nil]; omega, hown2, (below_draws' hb n1).trans hb2, HR2⟩
        case measure =>
          have hRs : (ByteArray.mk R.toArray).size = R.length := rfl
          simp [strLen]; omega
      · rw [if_neg h0] at htx
        have hres : (txt s.data.toList 1).2 = (k + 1, (lin H (k + 1) 1).2) := by rw [HR.out.2, htx]
        have HX := Lib.hid htx
        have HS := Lib.hid hres
        clear htx hres
        have h0' : ((((lin H (k + 1) 1).2 : Nat) : Int) == 0) = false := by rw [beq_eq_false_iff_ne]; omega
        go_wp2_with (first
          | (go_at_call 166; refine (HC' _).mono ?_; rintro e w1 ⟨b, rfl, n1, rfl⟩)
          | (go_at_call 167; refine (addLine_bad H (k + 1) B _ (by push_cast; rfl) _ ts (wr.drewN n1) (show Owns B (wr.drewN n1) 198 _ ts from HO.out) hBr hHl htl h0).mono ?_; rintro e w2 ⟨rfl, hb2⟩))
        (try simp only [Exit.inBlock, Exit.then]); refine bodyPost_ret (results_tmp4 rfl _ _ _) rfl ?_
        refine ⟨(below_draws' hb n1).trans hb2, ?_⟩
        unfold TokEnd
        rw [HS.out, if_neg (by simp)]
        push_cast
        rfl

end Go.Proofs.Ytjlohjkhnjemaaa

namespace Go.Proofs.Ytjlohjkhnjemaaa
open Go.RowKit
open Doc

/-- Block g holds the tokens l. -/
def Toks (w : World) (g : Nat) (l : List Tok) : Prop := ∀ j t, l[j]? = some t →
  w.cell? ⟨g, j * 4, none⟩ = some (.int .i64 t.kind) ∧ w.cell? ⟨g, j * 4 + 1, none⟩ = some (.string ⟨t.text.toArray⟩) ∧
  w.cell? ⟨g, j * 4 + 2, none⟩ = some (.int .i64 t.line) ∧ w.cell? ⟨g, j * 4 + 3, none⟩ = some (.int .i64 t.col)

theorem tall_at : ∀ (l : List Tok) (j : Nat) (t : Tok), l[j]? = some t →
    (tall l)[j * 4]? = some (.int .i64 t.kind) ∧ (tall l)[j * 4 + 1]? = some (.string ⟨t.text.toArray⟩) ∧ (tall l)[j * 4 + 2]? = some (.int .i64 t.line) ∧ (tall l)[j * 4 + 3]? = some (.int .i64 t.col)
  | [], j, t, h => by simp at h
  | u :: l, 0, t, h => by
    simp at h; subst h
    simp [tall_cons, tcells]
  | u :: l, j + 1, t, h => by
    have ih := tall_at l j t (by simpa using h)
    have e : ∀ i, (tall (u :: l))[(j + 1) * 4 + i]? = (tall l)[j * 4 + i]? := fun i => by
      rw [tall_cons, show (j + 1) * 4 + i = (tcells u).length + (j * 4 + i) by simp [tcells]; omega, List.getElem?_append_right (by omega)]
      congr 1; omega
    exact ⟨(e 0).trans ih.1, (e 1).trans ih.2.1, (e 2).trans ih.2.2.1, (e 3).trans ih.2.2.2⟩

theorem Owns.toks {B : Nat} {w : World} {e : TypeId} {v : Value} {l : List Tok} (h : Owns B w e v l) (hl : 0 < l.length) :
    ∃ g cap, v = .slice (some ⟨g, 0, none⟩) l.length cap ∧ l.length ≤ cap ∧ B ≤ g ∧ g < w.heap.size ∧ Toks w g l := by
  unfold Owns at h
  obtain ⟨g, cap, hv, hB, hg⟩ := h.form hl
  subst hv
  have hcap : l.length ≤ cap := by
    rcases h.2 with ⟨_, h0⟩ | ⟨g', cap', cur, hv, _, _, hc, _⟩
    · omega
    · simp only [Value.slice.injEq] at hv; omega
  refine ⟨g, cap, rfl, hcap, hB, hg, fun j t hj => ?_⟩
  have hlt : j < l.length := (List.getElem?_eq_some_iff.1 hj).1
  have ta := tall_at l j t hj
  exact ⟨(h.cellAt _ (by omega)).trans ta.1, (h.cellAt _ (by omega)).trans ta.2.1, (h.cellAt _ (by omega)).trans ta.2.2.1, (h.cellAt _ (by omega)).trans ta.2.2.2⟩

theorem Toks.below {w w' : World} {g : Nat} {l : List Tok} {B : Nat} (h : Toks w g l) (hg : g < B) (hb : Below B w w') : Toks w' g l := fun j t hj => by
  obtain ⟨h1, h2, h3, h4⟩ := h j t hj
  exact ⟨(hb.cell (p := ⟨g, _, none⟩) hg).trans h1, (hb.cell (p := ⟨g, _, none⟩) hg).trans h2, (hb.cell (p := ⟨g, _, none⟩) hg).trans h3, (hb.cell (p := ⟨g, _, none⟩) hg).trans h4⟩

/-- Tokens of a text that is one. -/
theorem tokens_ok (s : ByteArray) (w : World) (l : List Tok) (hs : s.size ≤ 1000000) (h : txt s.data.toList 1 = (l, 0, 0)) :
    Calls Try.prog 138 #[.string s] w fun e w' => ∃ v', e = .returned (.tuple #[v', .int .i64 0, .int .i64 0, .int .i64 0]) ∧ Below w.heap.size w w' ∧ Owns w.heap.size w' 198 v' l := by
  refine (tokens_any s w hs).mono fun e w' ⟨hb, he⟩ => ?_
  unfold TokEnd at he
  rw [h, if_pos rfl] at he
  obtain ⟨v', h1, h2⟩ := he
  exact ⟨v', h1, hb, h2⟩
theorem tokens_bad (s : ByteArray) (w : World) (l : List Tok) (a b : Nat) (hs : s.size ≤ 1000000) (h : txt s.data.toList 1 = (l, a, b)) (hab : a ≠ 0 ∨ b ≠ 0) :
    Calls Try.prog 138 #[.string s] w fun e w' => e = .returned (.tuple #[.slice none 0 0, .int .i64 a, .int .i64 b, .int .i64 2]) ∧ Below w.heap.size w w' := by
  refine (tokens_any s w hs).mono fun e w' ⟨hb, he⟩ => ?_
  unfold TokEnd at he
  rw [h, if_neg (by simp; omega)] at he
  exact ⟨he, hb⟩

theorem toks_new (w : World) (e : TypeId) (l : List Tok) (cs : Array Value) (hc : cs = (tall l).toArray) : Toks (w.alloc (.cells cs e)) w.heap.size l := fun j t hj => by
  subst hc
  have ta := tall_at l j t hj
  have hn := World.news_of_block (w := w.alloc (.cells (tall l).toArray e)) (heap_alloc_new w (.cells (tall l).toArray e))
  have hadd : ∀ i, (⟨w.heap.size, 0, none⟩ : Addr).add i = ⟨w.heap.size, i, none⟩ := fun i => by unfold Addr.add; split <;> simp_all
  exact ⟨(hadd _) ▸ hn _ _ ta.1, (hadd _) ▸ hn _ _ ta.2.1, (hadd _) ▸ hn _ _ ta.2.2.1, (hadd _) ▸ hn _ _ ta.2.2.2⟩

end Go.Proofs.Ytjlohjkhnjemaaa

namespace Go.Proofs.Ytjlohjkhnjemaaa
open Doc

/-- A text as it is read: its last line ended. -/
def nl (t : List UInt8) : List UInt8 := if t = [] ∨ t.getLast? = some 10 then t else t ++ [10]

theorem nl_nil : nl [] = [] := by simp [nl]

theorem nl_cons (c : UInt8) (l : List UInt8) : nl (c :: l) = head (c :: l) ++ 10 :: nl (rest (c :: l)) := by
  rcases byte_ten (c :: l) with ⟨hix, h2, h3⟩ | ⟨i, hix, hi, h2, h3⟩
  · rw [h2, h3, nl_nil]
    have hno : (c :: l).getLast? ≠ some 10 := by
      intro h
      have hm : (10 : UInt8) ∈ c :: l := List.mem_of_getLast? h
      rw [← h2] at hm
      exact head_no _ _ hm rfl
    unfold nl
    rw [if_neg (by simp only [reduceCtorEq, false_or]; exact hno)]
  · have hc := (Lib.indexByte_some hix).1
    have hsp : c :: l = (c :: l).take i ++ 10 :: (c :: l).drop (i + 1) := by
      conv => lhs; rw [← List.take_append_drop i (c :: l)]
      congr 1
      obtain ⟨h, hh⟩ := List.getElem?_eq_some_iff.1 hc
      rw [List.drop_eq_getElem_cons h, hh]
    rw [h2, h3]
    generalize (c :: l).take i = a at hsp
    generalize (c :: l).drop (i + 1) = b at hsp
    rw [hsp]
    unfold nl
    have hl : (a ++ 10 :: b).getLast? = if b = [] then some 10 else b.getLast? := by
      rw [List.getLast?_append]
      cases b with
      | nil => simp
      | cons d b => simp [List.getLast?_cons]
    rw [hl]
    by_cases hb : b = []
    · subst hb; simp
    · by_cases h10 : b.getLast? = some 10
      · simp [hb, h10]
      · simp [hb, h10]

/-- What is told, once ts are, with the line's rest bs and the lines r still to come. -/
def after (ts : List Tok) (bs r : List UInt8) (line col : Nat) : List Tok × Nat × Nat :=
  if (lin bs line col).2 = 0 then (ts ++ ((lin bs line col).1 ++ ⟨5, [], line, col + bs.length⟩ :: (txt r (line + 1)).1), (txt r (line + 1)).2)
  else ([], line, (lin bs line col).2)

/-- The same answer: the same place; the same tokens where it is none. -/
def Told (x y : List Tok × Nat × Nat) : Prop := x.2 = y.2 ∧ (y.2 = (0, 0) → x.1 = y.1)

theorem Told.rfl' (x : List Tok × Nat × Nat) : Told x x := ⟨rfl, fun _ => rfl⟩
theorem Told.trans {x y z : List Tok × Nat × Nat} (h : Told x y) (k : Told y z) : Told x z :=
  ⟨h.1.trans k.1, fun h0 => (h.2 (k.1.trans h0)).trans (k.2 h0)⟩

theorem after_start (ts : List Tok) (c : UInt8) (l : List UInt8) (line : Nat) : Told (ts ++ (txt (c :: l) line).1, (txt (c :: l) line).2) (after ts (head (c :: l)) (rest (c :: l)) line 1) := by
  rw [txt_cons]
  unfold after
  by_cases h : (lin (head (c :: l)) line 1).2 = 0
  · rw [if_pos h, if_pos h]
    refine ⟨rfl, fun _ => ?_⟩
    simp [Nat.add_comm]
  · rw [if_neg h, if_neg h]
    refine ⟨rfl, fun h0 => ?_⟩
    simp at h0
    exact absurd h0.2 h

theorem after_wrong (ts : List Tok) (c : UInt8) (l r : List UInt8) (line col : Nat) (hc : col ≠ 0) (h : (piece c l).1 = 0) : after ts (c :: l) r line col = ([], line, col) := by
  unfold after
  rw [lin_cons, if_pos h, if_neg hc]

theorem after_pass (ts : List Tok) (c : UInt8) (l r : List UInt8) (line col n : Nat) (h : piece c l = (9, n)) : after ts (c :: l) r line col = after ts ((c :: l).drop n) r line (col + n) := by
  have hs := piece_size c l
  rw [h] at hs
  have he : col + (c :: l).length = col + n + ((c :: l).drop n).length := by rw [List.length_drop]; simp only [List.length_cons] at *; omega
  unfold after
  rw [lin_cons, h, he]
  rfl

theorem after_tok (ts : List Tok) (c : UInt8) (l r : List UInt8) (line col k n : Nat) (h : piece c l = (k, n)) (h0 : k ≠ 0) (h9 : k ≠ 9) :
    after ts (c :: l) r line col = after (ts ++ [⟨k, (c :: l).take n, line, col⟩]) ((c :: l).drop n) r line (col + n) := by
  have hs := piece_size c l
  rw [h] at hs
  have he : col + (c :: l).length = col + n + ((c :: l).drop n).length := by rw [List.length_drop]; simp only [List.length_cons] at *; omega
  unfold after
  rw [lin_cons, h, he]
  simp only [if_neg h0, if_neg h9]
  split
  · simp
  · rfl

theorem after_end (ts : List Tok) (r : List UInt8) (line col : Nat) : after ts [] r line col = ((ts ++ [⟨5, [], line, col⟩]) ++ (txt r (line + 1)).1, (txt r (line + 1)).2) := by
  unfold after
  rw [lin_nil]
  simp

/-- Where the machine stands: D is what it has not read. -/
def Stand (T : List UInt8) (ts : List Tok) (line col : Nat) (D : List UInt8) : Prop :=
  (D = [] ∧ Told (txt T 1) (ts, 0, 0)) ∨ ∃ bs r, D = bs ++ 10 :: nl r ∧ (∀ c ∈ bs, c ≠ 10) ∧ Told (txt T 1) (after ts bs r line col)

theorem stand_next (T : List UInt8) (ts : List Tok) (line : Nat) (r : List UInt8) (h : Told (txt T 1) (ts ++ (txt r line).1, (txt r line).2)) : Stand T ts line 1 (nl r) := by
  rcases r with _ | ⟨c, l⟩
  · left
    rw [nl_nil]
    refine ⟨rfl, ?_⟩
    simpa [txt_nil] using h
  · right
    exact ⟨head (c :: l), rest (c :: l), nl_cons c l, head_no _, h.trans (after_start ts c l line)⟩

theorem stand_start (T : List UInt8) : Stand T [] 1 1 (nl T) := stand_next T [] 1 T (by simpa using Told.rfl' _)

/-- The end of a line. -/
theorem stand_line {T : List UInt8} {ts : List Tok} {line col : Nat} {D : List UInt8} (h : Stand T ts line col (10 :: D)) : Stand T (ts ++ [⟨5, [], line, col⟩]) (line + 1) 1 D := by
  rcases h with ⟨h, _⟩ | ⟨bs, r, hD, hno, ht⟩
  · cases h
  · rcases bs with _ | ⟨b, bs⟩
    · simp only [List.nil_append, List.cons.injEq, true_and] at hD
      subst hD
      rw [after_end] at ht
      exact stand_next T _ (line + 1) r ht
    · simp only [List.cons_append, List.cons.injEq] at hD
      exact absurd hD.1.symm (hno b List.mem_cons_self)

/-- Not the end of one: what is there. -/
theorem stand_in {T : List UInt8} {ts : List Tok} {line col : Nat} {c : UInt8} {D : List UInt8} (h : Stand T ts line col (c :: D)) (hc : c ≠ 10) :
    ∃ l r, D = l ++ 10 :: nl r ∧ (∀ d ∈ c :: l, d ≠ 10) ∧ Told (txt T 1) (after ts (c :: l) r line col) := by
  rcases h with ⟨h, _⟩ | ⟨bs, r, hD, hno, ht⟩
  · cases h
  · rcases bs with _ | ⟨b, bs⟩
    · simp only [List.nil_append, List.cons.injEq] at hD
      exact absurd hD.1 hc
    · simp only [List.cons_append, List.cons.injEq] at hD
      obtain ⟨rfl, hD⟩ := hD
      exact ⟨bs, r, hD, hno, ht⟩

theorem drop_stand {T : List UInt8} {ts : List Tok} {line col n : Nat} {c : UInt8} {l r : List UInt8} (hno : ∀ d ∈ c :: l, d ≠ 10) (hn : n ≤ l.length + 1) (ht : Told (txt T 1) (after ts ((c :: l).drop n) r line col)) :
    Stand T ts line col ((c :: (l ++ 10 :: nl r)).drop n) := by
  refine .inr ⟨(c :: l).drop n, r, ?_, fun d hd => hno d (List.mem_of_mem_drop hd), ht⟩
  rw [show c :: (l ++ 10 :: nl r) = (c :: l) ++ 10 :: nl r from rfl, List.drop_append_of_le_length (by simpa using hn)]

theorem stand_pass {T : List UInt8} {ts : List Tok} {line col n : Nat} {c : UInt8} {l r : List UInt8} (hno : ∀ d ∈ c :: l, d ≠ 10) (ht : Told (txt T 1) (after ts (c :: l) r line col)) (h : piece c l = (9, n)) :
    Stand T ts line (col + n) ((c :: (l ++ 10 :: nl r)).drop n) := by
  have hs := piece_size c l
  rw [h] at hs
  rw [after_pass ts c l r line col n h] at ht
  exact drop_stand hno hs ht

theorem stand_tok {T : List UInt8} {ts : List Tok} {line col k n : Nat} {c : UInt8} {l r : List UInt8} (hno : ∀ d ∈ c :: l, d ≠ 10) (ht : Told (txt T 1) (after ts (c :: l) r line col)) (h : piece c l = (k, n)) (h0 : k ≠ 0) (h9 : k ≠ 9) :
    Stand T (ts ++ [⟨k, (c :: l).take n, line, col⟩]) line (col + n) ((c :: (l ++ 10 :: nl r)).drop n) := by
  have hs := piece_size c l
  rw [h] at hs
  rw [after_tok ts c l r line col k n h h0 h9] at ht
  exact drop_stand hno hs ht

theorem stand_wrong {T : List UInt8} {ts : List Tok} {line col : Nat} {c : UInt8} {l r : List UInt8} (hc : col ≠ 0) (ht : Told (txt T 1) (after ts (c :: l) r line col)) (h : (piece c l).1 = 0) : (txt T 1).2 = (line, col) := by
  rw [after_wrong ts c l r line col hc h] at ht
  exact ht.1

/-- A row ends at the line's end at last. -/
theorem rowLen_line : ∀ (l r : List UInt8), rowLen (l ++ 10 :: r) = rowLen l
  | [], r => by
    have h : word 10 = false := by decide
    simp [rowLen, h]
  | c :: l, r => by
    have ih := rowLen_line l r
    simp only [List.cons_append, rowLen, ih]

end Go.Proofs.Ytjlohjkhnjemaaa
