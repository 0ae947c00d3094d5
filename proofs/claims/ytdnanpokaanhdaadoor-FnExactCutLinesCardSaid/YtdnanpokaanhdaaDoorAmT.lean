/-
  The types of this program, as they are read.
-/
import Derived.Test.YtdnanpokaanhdaaDoorAmC
import Derived.Test.YtdnanpokaanhdaaDoorProg
namespace Go.Proofs.YtdnanpokaanhdaaDoor
open Go.Am
abbrev tt : Tab := [(2, ⟨1, 8, [.int .i64 0], .word, some .i64, []⟩),
  (3, ⟨1, 8, [.int .i64 0], .word, some .i64, []⟩),
  (4, ⟨1, 1, [.bool false], .bool, none, []⟩),
  (5, ⟨1, 1, [.int .u8 0], .word, some .u8, []⟩),
  (9, ⟨1, 16, [.string ⟨#[]⟩], .str, none, []⟩),
  (12, ⟨1, 8, [.int .u64 0], .word, some .u64, []⟩),
  (20, ⟨1, 16, [.nilIface], .iface, none, []⟩),
  (21, ⟨1, 4, [.int .i32 0], .word, some .i32, []⟩),
  (22, ⟨1, 24, [.slice none 0 0], .slice 5, none, []⟩),
  (23, ⟨1, 24, [.slice none 0 0], .slice 9, none, []⟩),
  (24, ⟨3, 48, [.int .i64 0, .slice none 0 0, .string ⟨#[]⟩], .struct [(0, 1, false), (1, 1, false), (2, 1, false)], none, []⟩),
  (25, ⟨3, 48, [.int .i64 0, .slice none 0 0, .string ⟨#[]⟩], .struct [(0, 1, false), (1, 1, false), (2, 1, false)], none, []⟩),
  (47, ⟨1, 8, [.int .u64 0], .word, some .u64, []⟩),
  (49, ⟨2, 2, [.int .u8 0, .int .u8 0], .struct [(0, 1, false), (1, 1, false)], none, [.int .u8, .int .u8]⟩),
  (50, ⟨2, 2, [.int .u8 0, .int .u8 0], .struct [(0, 1, false), (1, 1, false)], none, [.int .u8, .int .u8]⟩),
  (51, ⟨32, 32, [.int .u8 0, .int .u8 0, .int .u8 0, .int .u8 0, .int .u8 0, .int .u8 0, .int .u8 0, .int .u8 0, .int .u8 0, .int .u8 0, .int .u8 0, .int .u8 0, .int .u8 0, .int .u8 0, .int .u8 0, .int .u8 0, .int .u8 0, .int .u8 0, .int .u8 0, .int .u8 0, .int .u8 0, .int .u8 0, .int .u8 0, .int .u8 0, .int .u8 0, .int .u8 0, .int .u8 0, .int .u8 0, .int .u8 0, .int .u8 0, .int .u8 0, .int .u8 0], .array 16 50, none, []⟩),
  (52, ⟨1, 4, [.int .u32 0], .word, some .u32, []⟩),
  (64, ⟨1, 8, [.nilFunc], .word, none, []⟩),
  (65, ⟨1, 8, [.pointer none], .word, none, []⟩)]
theorem ttOk : TabOk Tryd.prog tt := tabOk (by kernel_rfl) (by kernel_rfl)
end Go.Proofs.YtdnanpokaanhdaaDoor
