"""How many misses a row of uses has, by each of the five rules, and by rule 1 for each room."""

LAST_RULE = 4
MOST_ROOM = 1024
MOST_USES = 4294967295


def is_refused(rule, room):
    """Tell whether there is no such rule or no such room."""
    return not (0 <= rule <= LAST_RULE and 1 <= room <= MOST_ROOM)


def uses_after(uses):
    """Answer the count of a key's uses after one more."""
    return min(uses + 1, MOST_USES)


class Lines:
    """The lines in which the keys stand that are there.

    The first of `line` is the next to leave, but for the marks of rule 3.
    `uses` has every key that is there, in whichever line it stands.
    """

    def __init__(self, rule, room):
        self.rule = rule
        self.room = room
        self.line = []
        self.safe = []
        self.uses = {}
        self.marked = {}

    def use(self, key):
        """Use the key, and tell whether it was there."""
        if key in self.uses:
            self.use_again(key)
            return True
        if len(self.uses) == self.room:
            self.leave()
        self.come(key)
        return False

    def come(self, key):
        """Put a key in the line that was not there."""
        self.uses[key] = 1
        if self.rule == 2:
            self.place_by_uses(key)
        else:
            self.line.append(key)

    def use_again(self, key):
        """Move, count or mark a key that is there; by rule 0 nothing moves."""
        self.uses[key] = uses_after(self.uses[key])
        if self.rule == 1:
            self.line.remove(key)
            self.line.append(key)
        elif self.rule == 2:
            self.line.remove(key)
            self.place_by_uses(key)
        elif self.rule == 3:
            self.marked[key] = True
        elif self.rule == 4:
            self.make_safe(key)

    def place_by_uses(self, key):
        """Put the key, used just now, behind all that have no more uses than it.

        So the line is in the order of uses, and those with as many uses stand
        by their last use: the line is halved in search of the place.
        """
        uses = self.uses[key]
        low = 0
        high = len(self.line)
        while low < high:
            middle = (low + high) // 2
            if self.uses[self.line[middle]] <= uses:
                low = middle + 1
            else:
                high = middle
        self.line.insert(low, key)

    def make_safe(self, key):
        """Put the key at the end of the safe ones, which may give one back."""
        if key in self.safe:
            self.safe.remove(key)
        else:
            self.line.remove(key)
        self.safe.append(key)
        if len(self.safe) > self.room // 2:
            self.line.append(self.safe.pop(0))

    def leave(self):
        """Let one key leave.

        The safe ones never fill all of the room, so where no room is left
        the line has a first key.
        """
        while self.line[0] in self.marked:
            spared = self.line.pop(0)
            self.marked.pop(spared)
            self.line.append(spared)
        gone = self.line.pop(0)
        self.uses.pop(gone)


def misses(rule, room, keys):
    """Answer how many of the keys, used one after another, are not there; or -2."""
    if is_refused(rule, room):
        return [-2]
    lines = Lines(rule, room)
    missed = 0
    for key in keys:
        if not lines.use(key):
            missed += 1
    return [missed]


def count_by_room(most, keys):
    """Count for each room the uses that find their key with so much room, but not with less.

    By rule 1 a room holds the keys used last, so it holds all that a smaller one
    does. One row, the key used last ahead, tells of every room then: the key at
    place p is there in each room greater than p, and in no other.
    """
    found = [0] * (most + 1)
    recent = []
    for key in keys:
        if key in recent:
            place = recent.index(key)
            recent.pop(place)
            found[place + 1] += 1
        recent.insert(0, key)
        if len(recent) > most:
            recent.pop()
    return found


def curve(most, keys):
    """Answer 0, then for each room from 1 to most the misses by rule 1."""
    found = count_by_room(most, keys)
    missed = len(keys)
    answer = [0]
    for room in range(1, most + 1):
        missed -= found[room]
        answer.append(missed)
    return answer
