/-
  What is asked of package tree's functions: Root, Path and Climb, each for every input (a structure of contracts; the text Trees shows it of the landed package).
-/
import Derived.Test.YtmjpcmeinlkfbaaDoorSpg3
import Derived.Test.YtmjpcmeinlkfbaaDoorTree
import Derived.Test.YtmjpcmeinlkfbaaDoorMle
namespace Go.Proofs.YtmjpcmeinlkfbaaDoor
open Go.RowKit
set_option linter.unusedVariables false

structure TreeC : Prop where
  root_ok : ∀ (n N b off cap : Nat) (f : Nat → Int) (w : World) (hn : n ≤ 8) (hN : N = 2 ^ n) (hc : N ≤ cap) (ht : Tab w) (hr : Row w b off N f) (hv : Nums f),
    Calls Tryd.prog 24 #[.slice (some ⟨b, off, none⟩) N cap] w fun e w' => e = .returned (.tuple #[.int .u64 (rootQ n f), .int .i64 0]) ∧ Below w.heap.size w w'
  root_form : ∀ (ao : Option Addr) (N cap : Nat) (w : World) (h : ∀ n, n ≤ 8 → N ≠ 2 ^ n) (hmax : N ≤ maxLen),
    Calls Tryd.prog 24 #[.slice ao N cap] w fun e w' => e = .returned (.tuple #[.int .u64 0, .int .i64 4]) ∧ Below w.heap.size w w'
  path_ok : ∀ (n N b off cap i : Nat) (f : Nat → Int) (w : World) (hn : n ≤ 8) (hN : N = 2 ^ n) (hc : N ≤ cap) (ht : Tab w) (hr : Row w b off N f) (hv : Nums f) (hi : i < N),
    Calls Tryd.prog 25 #[.slice (some ⟨b, off, none⟩) N cap, .int .i64 (i : Int)] w fun e w' => ∃ ao c, e = .returned (.tuple #[.slice ao n c, .int .i64 0]) ∧ n ≤ c ∧ PRow w' ao n (pathQ n f i) ∧ Below w.heap.size w w'
  path_form : ∀ (ao : Option Addr) (N cap : Nat) (i : Int) (w : World) (h : ∀ n, n ≤ 8 → N ≠ 2 ^ n) (hmax : N ≤ maxLen),
    Calls Tryd.prog 25 #[.slice ao N cap, .int .i64 i] w fun e w' => e = .returned (.tuple #[.slice none 0 0, .int .i64 4]) ∧ Below w.heap.size w w'
  path_arg : ∀ (n N cap : Nat) (ao : Option Addr) (i : Int) (w : World) (hn : n ≤ 8) (hN : N = 2 ^ n) (ht : Tab w) (hi : i < 0 ∨ (N : Int) ≤ i),
    Calls Tryd.prog 25 #[.slice ao N cap, .int .i64 i] w fun e w' => e = .returned (.tuple #[.slice none 0 0, .int .i64 1]) ∧ Below w.heap.size w w'
  climb_ok : ∀ (n cap i : Nat) (ao : Option Addr) (leaf : Int) (p : Nat → Int) (w : World) (hn : n ≤ 8) (hc : n ≤ cap) (hr : PRow w ao n p) (hv : Nums p) (hi : i < 2 ^ n) (l0 : 0 ≤ leaf) (l1 : leaf ≤ 18446744073709551615),
    Calls Tryd.prog 26 #[.int .i64 (i : Int), .int .u64 leaf, .slice ao n cap] w fun e w' => e = .returned (.tuple #[.int .u64 (climbQ n i leaf p), .int .i64 0]) ∧ Below w.heap.size w w'
  climb_arg : ∀ (n cap : Nat) (i : Int) (ao : Option Addr) (leaf : Int) (w : World) (hm : n ≤ maxLen) (h : 8 < n ∨ i < 0 ∨ (n ≤ 8 ∧ ((2 ^ n : Nat) : Int) ≤ i)) (h63 : i ≤ 9223372036854775807) (h64 : -9223372036854775808 ≤ i),
    Calls Tryd.prog 26 #[.int .i64 i, .int .u64 leaf, .slice ao n cap] w fun e w' => e = .returned (.tuple #[.int .u64 0, .int .i64 1]) ∧ Below w.heap.size w w'

end Go.Proofs.YtmjpcmeinlkfbaaDoor
